package score

import (
	"fmt"
	"reflect"
	"testing"

	"stadion/api"
)

// check compares a result with what is wanted; nil and empty lists are equal.
func check(t *testing.T, what string, got, want any) {
	t.Helper()
	if g, w := fmt.Sprintf("%+v", got), fmt.Sprintf("%+v", want); g != w {
		t.Errorf("%s: got %s, want %s", what, g, w)
	}
}

// checkNothing checks that what stands beside an error is nothing.
func checkNothing(t *testing.T, what string, got any) {
	t.Helper()
	x := reflect.ValueOf(got)
	if got == nil || x.IsZero() || x.Kind() == reflect.Slice && x.Len() == 0 {
		return
	}
	t.Errorf("%s: %+v beside an error", what, got)
}

// checkBoth compares a result and its error with what is wanted.
func checkBoth(t *testing.T, what string, got any, e api.Errno, want any, wanted api.Errno) {
	t.Helper()
	check(t, what+", the error", e, wanted)
	if wanted == api.OK {
		check(t, what, got, want)
	} else {
		checkNothing(t, what, got)
	}
}

// rung is an error of a value, and what removes it.
type rung[T any] struct {
	want api.Errno
	fix  func(x *T)
}

// climb checks that a value with many errors has them in their order, by removing one after another.
func climb[T any](t *testing.T, what string, x T, e func(x T) api.Errno, rungs ...rung[T]) {
	t.Helper()
	for i, r := range rungs {
		if got := e(x); got != r.want {
			t.Fatalf("%s, the error %d: got %v, want %v", what, i, got, r.want)
		}
		r.fix(&x)
	}
	check(t, what+" without errors", e(x), api.OK)
}

// checkRange checks that a function has ErrRange for the numbers out of a range alone, and nothing beside it.
func checkRange(t *testing.T, what string, least, greatest int, f func(n int) (any, api.Errno)) {
	t.Helper()
	for n, want := range map[int]api.Errno{
		-1 << 63: api.ErrRange, least - 1: api.ErrRange, least: api.OK,
		greatest: api.OK, greatest + 1: api.ErrRange, 1<<63 - 1: api.ErrRange,
	} {
		got, e := f(n)
		check(t, fmt.Sprint(what, " ", n), e, want)
		if e != api.OK {
			checkNothing(t, what, got)
		}
	}
}

// ignored returns OK for one error.
func ignored(e, one api.Errno) api.Errno {
	if e == one {
		return api.OK
	}
	return e
}

// repeated returns a list with as many elements.
func repeated[T any](n int, element func(i int) T) []T {
	var l []T
	for i := range n {
		l = append(l, element(i))
	}
	return l
}

// named returns a name with a number.
func named(i int) string { return fmt.Sprint("x", i) }

func run(n int) api.Mark             { return api.Mark{Kind: "time", Value: n} }
func leap(n int) api.Mark            { return api.Mark{Kind: "length", Value: n} }
func pointed(n int) api.Mark         { return api.Mark{Kind: "points", Value: n} }
func none(s string) api.Mark         { return api.Mark{Kind: "none", Reason: s} }
func marks(l ...api.Mark) []api.Mark { return l }

// dash and jump are the scales of the chapter's examples.
func dash() Scale {
	return Scale{"dash", "time", "hundredths", []Step{{100000, 1000}, {110000, 800}, {130000, 0}}}
}

func jump() Scale {
	return Scale{"jump", "length", "centimetres", []Step{{6000, 500}, {8000, 1000}}}
}

func TestExample1(t *testing.T) {
	for _, x := range []struct {
		s    Scale
		m    api.Mark
		want int
	}{
		{dash(), run(104950), 900}, {dash(), run(109901), 800}, {dash(), run(99000), 1000}, {dash(), run(130001), 0},
		{jump(), leap(7005), 750}, {jump(), leap(5999), 0},
	} {
		n, e := Points(x.s, x.m)
		checkBoth(t, fmt.Sprint("the points of ", x.m), n, e, x.want, api.OK)
	}
}

func TestExample2(t *testing.T) {
	m, e := Need(dash(), 900)
	checkBoth(t, "Need of 900", m, e, run(105000), api.OK)
	m, e = Need(dash(), 801)
	checkBoth(t, "Need of 801", m, e, run(109900), api.OK)
	m, e = Need(dash(), 1001)
	checkBoth(t, "Need of 1001", m, e, nil, api.ErrNone)
	m, e = Need(jump(), 501)
	checkBoth(t, "Need of 501", m, e, leap(6010), api.OK)
}

func TestExample3(t *testing.T) {
	l := []Scale{dash(), jump()}
	c := []Card{{"ann", marks(run(105000), leap(7000))}, {"ben", marks(run(110000), leap(7400))}, {"cat", marks(none("DNS"), leap(8000))}}
	totals, e := Totals(l, c)
	checkBoth(t, "the totals", totals, e, []int{1650, 1650, 1000}, api.OK)
	series, e := Series(l, c[1])
	checkBoth(t, "the series", series, e, []int{800, 850}, api.OK)
	ranks, e := Rank(l, c)
	checkBoth(t, "the ranks", ranks, e, []int{1, 2, 0}, api.OK)
}

func TestExample4(t *testing.T) {
	l := []Line{{"ann", "north", run(95000)}, {"ben", "south", run(96000)}, {"cat", "north", run(96000)}, {"dan", "south", run(97000)}}
	two, e := Award(l, []int{5, 3, 2}, 2)
	checkBoth(t, "two scorers", two, e, []Club{{"north", "15/2"}, {"south", "5/2"}}, api.OK)
	one, e := Award(l, []int{5, 3, 2}, 1)
	checkBoth(t, "one scorer", one, e, []Club{{"north", "5"}, {"south", "5/2"}}, api.OK)
	both, e := League([][]Club{two, one})
	checkBoth(t, "the league", both, e, []Club{{"north", "25/2"}, {"south", "5"}}, api.OK)
}

// performances and rule are those of the chapter's examples.
func performances() []Performance {
	return []Performance{{"ann", 10, 900, 50}, {"ann", 20, 940, 0}, {"ann", 40, 910, 0}, {"ben", 40, 1000, 0}}
}

func rule() Rule { return Rule{Window: 30, Count: 2} }

func TestExample5(t *testing.T) {
	score, numbers, e := Best(performances(), rule(), "ann", 40)
	checkBoth(t, "the score of ann", []any{score, numbers}, e, []any{1850, []int{1, 2}}, api.OK)
	score, numbers, e = Best(performances(), rule(), "ann", 39)
	checkBoth(t, "her score on the day before", []any{score, numbers}, e, []any{1890, []int{0, 1}}, api.OK)
	score, numbers, e = Best(performances(), rule(), "ben", 40)
	checkBoth(t, "the score of ben", []any{score, numbers}, e, []any{1000, []int{3}}, api.OK)
	day, e := Expires(performances(), rule(), "ann", 40)
	checkBoth(t, "when it expires", day, e, 50, api.OK)
	standings, e := Ranking(performances(), rule(), 40)
	checkBoth(t, "the ranking", standings, e, []Standing{{"ann", 1850, 1}, {"ben", 1000, 2}}, api.OK)
}

// terms and claims are those of the chapter's examples.
func terms() Terms { return Terms{Kind: "length", Wind: -1} }

func claims() []Claim {
	return []Claim{
		{Athlete: "ann", Mark: leap(8000), Day: 10, Ratified: 15, Withdrawn: -1},
		{Athlete: "ben", Mark: leap(8100), Day: 20, Ratified: 30, Withdrawn: -1},
		{Athlete: "cat", Mark: leap(8100), Day: 25, Ratified: -1, Withdrawn: -1},
		{Athlete: "dan", Mark: leap(8050), Day: 22, Ratified: 23, Withdrawn: -1},
	}
}

func TestExample6(t *testing.T) {
	l := claims()
	for today, want := range map[int]int{29: 0, 30: 1} {
		record, e := Record(terms(), l, 20, today)
		checkBoth(t, "the record of the day 20", record, e, []int{want}, api.OK)
	}
	for today, want := range map[int][]int{29: {1, 2}, 30: {2}} {
		pending, e := Pending(terms(), l, today)
		checkBoth(t, "what is pending", pending, e, want, api.OK)
	}
	history, e := History(terms(), l, 30)
	checkBoth(t, "the history", history, e, []Change{{10, []int{0}}, {20, []int{1}}}, api.OK)
	held, e := Held(terms(), l, "ann", 30)
	checkBoth(t, "the days of ann", held, e, 10, api.OK)
	l[1].Withdrawn = 35
	history, e = History(terms(), l, 40)
	checkBoth(t, "the history without the claim 1", history, e, []Change{{10, []int{0}}, {22, []int{3}}}, api.OK)
}
