package track

import (
	"fmt"
	"reflect"
	"testing"

	"stadion/api"
)

// check compares a result with what is wanted; nil and empty lists are equal.
func check(t *testing.T, what string, got, want any) {
	t.Helper()
	if g, w := fmt.Sprintf("%+v", got), fmt.Sprintf("%+v", want); g != w {
		t.Errorf("%s: got %s, want %s", what, g, w)
	}
}

// checkNothing checks that what stands beside an error is nothing.
func checkNothing(t *testing.T, what string, got any) {
	t.Helper()
	x := reflect.ValueOf(got)
	if got == nil || x.IsZero() || x.Kind() == reflect.Slice && x.Len() == 0 {
		return
	}
	t.Errorf("%s: %+v beside an error", what, got)
}

// rung is an error of a value, and what removes it.
type rung[T any] struct {
	want api.Errno
	fix  func(x *T)
}

// climb checks that a value with many errors has them in their order, by removing one after another.
func climb[T any](t *testing.T, what string, x T, e func(x T) api.Errno, rungs ...rung[T]) {
	t.Helper()
	for i, r := range rungs {
		if got := e(x); got != r.want {
			t.Fatalf("%s, the error %d: got %v, want %v", what, i, got, r.want)
		}
		r.fix(&x)
	}
	check(t, what+" without errors", e(x), api.OK)
}

// rangeCase is a number and whether it is in a range.
type rangeCase struct {
	n    int
	want api.Errno
}

// around returns the numbers at both ends of a range.
func around(least, greatest int, e api.Errno) []rangeCase {
	return []rangeCase{
		{-1 << 63, e}, {least - 1, e}, {least, api.OK},
		{greatest, api.OK}, {greatest + 1, e}, {1<<63 - 1, e},
	}
}

// checkRange checks that a function has an error for the numbers out of a range alone, and nothing beside it.
func checkRange(t *testing.T, what string, least, greatest int, wrong api.Errno, f func(n int) (any, api.Errno)) {
	t.Helper()
	for _, x := range around(least, greatest, wrong) {
		got, e := f(x.n)
		check(t, fmt.Sprint(what, " ", x.n), e, x.want)
		if e != api.OK {
			checkNothing(t, what, got)
		}
	}
}

// ignored returns OK for one error.
func ignored(e, one api.Errno) api.Errno {
	if e == one {
		return api.OK
	}
	return e
}

func spanOf(low, high api.Rat) api.Span { return api.Span{Low: low, High: high} }

// oval returns the oval O of the chapter's examples.
func oval() Oval {
	return Oval{Straight: 84390, Radius: 36500, Width: 1220, First: 300, Other: 200, Lanes: 8}
}

// relay returns the relay of the chapter's examples.
func relay() Relay {
	return Relay{Legs: []int{100000, 100000, 100000, 100000}, Zone: 30000, Before: 20000}
}

// run returns the run of the chapter's examples, with the finish at 420000.
func run() []Exchange { return []Exchange{{95000, 110000}, {200000, 210000}, {310000, 320000}} }

func TestExample1(t *testing.T) {
	for lane, want := range map[int]int{1: 36800, 2: 37920, 3: 39140} {
		r, e := Radius(oval(), lane)
		check(t, "the running radius", r, want)
		check(t, "Radius", e, api.OK)
	}
	s, e := Lap(oval(), 1)
	check(t, "the lap", s, spanOf("21199740/53", "2800660/7"))
	check(t, "Lap", e, api.OK)
}

func TestExample2(t *testing.T) {
	s, e := Stagger(oval(), 2, 1)
	check(t, "the stagger", s, spanOf("186480/53", "3520"))
	check(t, "Stagger", e, api.OK)
	o := oval()
	o.Lanes = 2
	marked, e := Marked(o, 1)
	check(t, "the marked stagger", marked, []int{0, 3518})
	check(t, "Marked", e, api.OK)
	errors, e := Errors(o, 1)
	check(t, "its error", errors, []api.Span{spanOf("0", "0"), spanOf("26/53", "2")})
	check(t, "Errors", e, api.OK)
}

func TestExample3(t *testing.T) {
	s, e := Break(oval(), 1)
	check(t, "the break of the lane 1", s, spanOf("0", "0"))
	check(t, "Break", e, api.OK)
	for width, want := range map[int]api.Span{3: spanOf("1", "1"), 2: spanOf("0", "1")} {
		s, e := Break(Oval{Straight: 4, Radius: 1, Width: width, Lanes: 2}, 2)
		check(t, "the break", s, want)
		check(t, "Break", e, api.OK)
	}
}

func TestExample4(t *testing.T) {
	for _, x := range []struct {
		distance int
		want     Spot
		e        api.Errno
	}{
		{100000, Spot{0, 0, spanOf("100000", "100000")}, api.OK},
		{115630, Spot{}, api.ErrOpen},
		{116000, Spot{0, 1, spanOf("2400/7", "20800/53")}, api.OK},
	} {
		w, e := Where(oval(), 1, x.distance)
		check(t, "the place", w, x.want)
		check(t, "Where", e, x.e)
	}
}

func TestExample5(t *testing.T) {
	h := Hurdles{13000, 8500, 10500, 10}
	check(t, "the hurdles", CheckHurdles(h, 100000), api.OK)
	l, e := Places(h, 100000)
	check(t, "their places", l, []int{13000, 21500, 30000, 38500, 47000, 55500, 64000, 72500, 81000, 89500})
	check(t, "Places", e, api.OK)
	z, e := Zones(relay())
	check(t, "the zones", z, [][2]int{{80000, 110000}, {180000, 210000}, {280000, 310000}})
	check(t, "Zones", e, api.OK)
}

func TestExample6(t *testing.T) {
	at, e := CheckRun(relay(), run(), 420000)
	check(t, "the run", []any{at, e}, []any{0, api.OK})
	legs, e := Legs(relay(), run(), 420000)
	check(t, "the legs", legs, []int{110000, 100000, 110000, 100000})
	check(t, "Legs", e, api.OK)
	l := run()
	l[1].Place = 210001
	at, e = CheckRun(relay(), l, 420000)
	check(t, "an exchange behind its zone", []any{at, e}, []any{1, api.ErrRule})
}

func TestExample7(t *testing.T) {
	reserves := []string{"e", "f", "g"}
	teams := [][]string{{"a", "b", "c", "d"}, {"b", "a", "e", "f"}}
	at, e := CheckTeams(relay(), teams, reserves)
	check(t, "two substitutes", []any{at, e}, []any{0, api.OK})
	at, e = CheckTeams(relay(), append(teams, []string{"a", "b", "g", "d"}), reserves)
	check(t, "three substitutes", []any{at, e}, []any{2, api.ErrRule})
}
