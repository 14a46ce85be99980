package timetable

import (
	"fmt"
	"reflect"
	"testing"

	"stadion/api"
)

// check compares a result with what is wanted; nil and empty lists are equal.
func check(t *testing.T, what string, got, want any) {
	t.Helper()
	if g, w := fmt.Sprintf("%+v", got), fmt.Sprintf("%+v", want); g != w {
		t.Errorf("%s: got %s, want %s", what, g, w)
	}
}

// checkNothing checks that what stands beside an error is nothing.
func checkNothing(t *testing.T, what string, got any) {
	t.Helper()
	x := reflect.ValueOf(got)
	if got == nil || x.IsZero() || x.Kind() == reflect.Slice && x.Len() == 0 {
		return
	}
	t.Errorf("%s: %+v beside an error", what, got)
}

// checkBoth compares a result and its error with what is wanted.
func checkBoth(t *testing.T, what string, got any, e api.Errno, want any, wanted api.Errno) {
	t.Helper()
	check(t, what+", the error", e, wanted)
	if wanted == api.OK {
		check(t, what, got, want)
	} else {
		checkNothing(t, what, got)
	}
}

// rung is an error of a value, and what removes it.
type rung[T any] struct {
	want api.Errno
	fix  func(x *T)
}

// climb checks that a value with many errors has them in their order, by removing one after another.
func climb[T any](t *testing.T, what string, x T, e func(x T) api.Errno, rungs ...rung[T]) {
	t.Helper()
	for i, r := range rungs {
		if got := e(x); got != r.want {
			t.Fatalf("%s, the error %d: got %v, want %v", what, i, got, r.want)
		}
		r.fix(&x)
	}
	check(t, what+" without errors", e(x), api.OK)
}

// repeated returns a list with as many elements.
func repeated[T any](n int, element func(i int) T) []T {
	var l []T
	for i := range n {
		l = append(l, element(i))
	}
	return l
}

// named returns a name with a number.
func named(i int) string { return fmt.Sprint("x", i) }

// sample returns the plan P of the chapter's examples, with changes.
func sample(changes ...func(p *Plan)) Plan {
	p := Plan{
		Rounds: []Round{
			{"heats", 30, []string{"track"}, nil, []string{"ann", "bea"}, 0, 100},
			{"jump", 20, []string{"pit"}, nil, []string{"ann"}, 0, 100},
			{"final", 10, []string{"track"}, nil, []string{"bea"}, 0, 100},
		},
		Orders: []Order{{0, 2, 15}},
		Rest:   20,
	}
	for _, change := range changes {
		change(&p)
	}
	return p
}

// narrow makes the plan that of the example 4.
func narrow(p *Plan) {
	p.Rounds[0].To, p.Rounds[1].From, p.Rounds[1].To = 60, 20, 60
}

func TestExample1(t *testing.T) {
	l, e := Conditions(sample())
	checkBoth(t, "the conditions", l, e, []Condition{
		{"window", 0, 0}, {"window", 1, 1}, {"window", 2, 2}, {"order", 0, 2}, {"athlete", 0, 1}, {"area", 0, 2}, {"athlete", 0, 2},
	}, api.OK)
}

func TestExample2(t *testing.T) {
	w, e := Windows(sample())
	checkBoth(t, "the windows", w, e, [][2]int{{0, 45}, {0, 80}, {45, 90}}, api.OK)
	n, e := Chain(sample())
	checkBoth(t, "the chain", n, e, 55, api.OK)
}

func TestExample3(t *testing.T) {
	l, e := First(sample())
	checkBoth(t, "the first table", l, e, []int{0, 50, 50}, api.OK)
	n, e := End(sample(), l)
	checkBoth(t, "its end", n, e, 70, api.OK)
	n, e = Least(sample())
	checkBoth(t, "the least end", n, e, 70, api.OK)
	l, e = First(sample(func(p *Plan) { p.Rounds[1].To = 20 }))
	checkBoth(t, "the first table with the jump at 0", l, e, []int{40, 0, 90}, api.OK)
	n, e = Least(sample(func(p *Plan) { p.Rounds[1].To = 20 }))
	checkBoth(t, "the least end with the jump at 0", n, e, 100, api.OK)
}

func TestExample4(t *testing.T) {
	l, e := Core(sample(narrow))
	checkBoth(t, "the core", l, e, []int{0, 1, 4}, api.OK)
	l, e = Smallest(sample(narrow))
	checkBoth(t, "the smallest conflict", l, e, []int{0, 1, 4}, api.OK)
	check(t, "what contradicts", CheckConflict(sample(narrow), []int{0, 1, 4}), api.OK)
}

func TestExample5(t *testing.T) {
	table := []int{0, 50, 50}
	l, e := Day(sample(), table, "ann")
	checkBoth(t, "the day of ann", l, e, []int{0, 1}, api.OK)
	n, e := Rest(sample(), table, "ann")
	checkBoth(t, "the rest of ann", n, e, 20, api.OK)
	l, e = Slack(sample(), table)
	checkBoth(t, "the slack", l, e, []int{0, 30, 40}, api.OK)
	u, e := Load(sample())
	checkBoth(t, "the load", u, e, []Use{{"pit", 20}, {"track", 40}}, api.OK)
}
