package seed

import (
	"fmt"
	"slices"
	"strconv"
	"testing"

	"stadion/api"
)

// check compares a result with what is wanted; nil and empty lists are equal.
func check(t *testing.T, what string, got, want any) {
	t.Helper()
	if g, w := fmt.Sprintf("%+v", got), fmt.Sprintf("%+v", want); g != w {
		t.Errorf("%s: got %s, want %s", what, g, w)
	}
}

func noMark(reason string) api.Mark { return api.Mark{Kind: "none", Reason: reason} }
func timeOf(n int) api.Mark         { return api.Mark{Kind: "time", Value: n} }
func lengthOf(n int) api.Mark       { return api.Mark{Kind: "length", Value: n} }
func pointsOf(n int) api.Mark       { return api.Mark{Kind: "points", Value: n} }

// example returns the entrants E of the chapter's examples.
func example() []Entrant {
	return []Entrant{
		{"ann", "red", timeOf(105000)},
		{"bea", "red", timeOf(102000)},
		{"cia", "blue", timeOf(104000)},
		{"dot", "blue", noMark("NM")},
		{"eva", "red", timeOf(103000)},
	}
}

// race returns the heats of runners of the chapter's examples.
func race() [][]Runner {
	return [][]Runner{
		{{"a", timeOf(101000)}, {"b", timeOf(102000)}, {"c", timeOf(102000)}},
		{{"d", timeOf(101500)}, {"e", timeOf(102000)}, {"f", noMark("DNF")}},
	}
}

// numbered returns as many different names.
func numbered(n int) []string {
	names := make([]string, n)
	for i := range names {
		names[i] = "n" + strconv.Itoa(i)
	}
	return names
}

// field returns as many entrants, the best one first, who are in turn of as many clubs.
func field(n, clubs int) []Entrant {
	l := make([]Entrant, n)
	for i, name := range numbered(n) {
		l[i] = Entrant{name, "c" + strconv.Itoa(i%clubs), timeOf(1 + i)}
	}
	return l
}

// crowd returns heats with as many runners in each, with the times 1, 2, .. in each heat.
func crowd(heats, runners int) [][]Runner {
	l := make([][]Runner, heats)
	for i, name := range numbered(heats * runners) {
		l[i/runners] = append(l[i/runners], Runner{name, timeOf(1 + i%runners)})
	}
	return l
}

// changed returns a value of which something is changed.
func changed[T any](x T, change func(x T)) T {
	change(x)
	return x
}

// rung is an error of a value, and what removes it.
type rung[T any] struct {
	want api.Errno
	fix  func(x *T)
}

// climb checks that a value with many errors has them in their order, by removing one after another.
func climb[T any](t *testing.T, what string, x T, e func(x T) api.Errno, rungs ...rung[T]) {
	t.Helper()
	for i, r := range rungs {
		if got := e(x); got != r.want {
			t.Fatalf("%s, the error %d: got %v, want %v", what, i, got, r.want)
		}
		r.fix(&x)
	}
	check(t, what+" without errors", e(x), api.OK)
}

// wrongEntrants has for some errors entrants with it.
func wrongEntrants() map[api.Errno][]Entrant {
	return map[api.Errno][]Entrant{
		api.ErrMany:  field(161, 161),
		api.ErrName:  {{"ann", "", timeOf(1)}},
		api.ErrTwice: slices.Concat(example(), example()),
		api.ErrKind:  append(example(), Entrant{"fay", "red", lengthOf(1)}),
		api.ErrForm:  {{"ann", "red", noMark("")}},
	}
}

// checkOfEntrants checks that a function returns the errors of entrants first, and nothing beside them.
func checkOfEntrants(t *testing.T, what string, f func(l []Entrant) (any, api.Errno)) {
	t.Helper()
	for want, l := range wrongEntrants() {
		got, e := f(l)
		check(t, what+" of wrong entrants", e, want)
		checkNothing(t, what, got)
	}
}

// checkNothing checks that what stands beside an error is nothing.
func checkNothing(t *testing.T, what string, got any) {
	t.Helper()
	if text := fmt.Sprint(got); !slices.Contains([]string{"0", "[]", "<nil>", "[[] []]"}, text) {
		t.Errorf("%s: %s beside an error", what, text)
	}
}

// rangeCase is a number and whether it is in a range.
type rangeCase struct {
	n    int
	want api.Errno
}

// around returns the numbers at both ends of a range.
func around(least, greatest int) []rangeCase {
	return []rangeCase{
		{-1 << 63, api.ErrRange}, {least - 1, api.ErrRange}, {least, api.OK},
		{greatest, api.OK}, {greatest + 1, api.ErrRange}, {1<<63 - 1, api.ErrRange},
	}
}
