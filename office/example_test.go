package office

import (
	"fmt"
	"reflect"
	"slices"
	"strconv"
	"strings"
	"testing"

	"stadion/api"
)

// check compares a result with what is wanted; nil and empty lists are equal.
func check(t *testing.T, what string, got, want any) {
	t.Helper()
	if g, w := fmt.Sprintf("%+v", got), fmt.Sprintf("%+v", want); g != w {
		t.Errorf("%s: got %s, want %s", what, g, w)
	}
}

// checkNothing checks that what stands beside an error is nothing.
func checkNothing(t *testing.T, what string, got any) {
	t.Helper()
	x := reflect.ValueOf(got)
	if got == nil || x.IsZero() || x.Kind() == reflect.Slice && x.Len() == 0 {
		return
	}
	t.Errorf("%s: %+v beside an error", what, got)
}

// checkBoth compares a result and its error with what is wanted.
func checkBoth(t *testing.T, what string, got any, e api.Errno, want any, wanted api.Errno) {
	t.Helper()
	check(t, what+", the error", e, wanted)
	if wanted == api.OK {
		check(t, what, got, want)
	} else {
		checkNothing(t, what, got)
	}
}

// rung is an error of a value, and what removes it.
type rung[T any] struct {
	want api.Errno
	fix  func(x *T)
}

// climb checks that a value with many errors has them in their order, by removing one after another.
func climb[T any](t *testing.T, what string, x T, e func(x T) api.Errno, rungs ...rung[T]) {
	t.Helper()
	for i, r := range rungs {
		if got := e(x); got != r.want {
			t.Fatalf("%s, the error %d: got %v, want %v", what, i, got, r.want)
		}
		r.fix(&x)
	}
	check(t, what+" without errors", e(x), api.OK)
}

// repeated returns a list with as many elements.
func repeated[T any](n int, element func(i int) T) []T {
	var l []T
	for i := range n {
		l = append(l, element(i))
	}
	return l
}

// named returns a name with a number.
func named(i int) string { return fmt.Sprint("x", i) }

func run(n int) api.Mark     { return api.Mark{Kind: "time", Value: n} }
func leap(n int) api.Mark    { return api.Mark{Kind: "length", Value: n} }
func pointed(n int) api.Mark { return api.Mark{Kind: "points", Value: n} }
func none(s string) api.Mark { return api.Mark{Kind: "none", Reason: s} }

// event returns the event of a line that is none of too few words.
func event(number int, line string) api.Event {
	words := strings.Split(line, " ")
	e := api.Event{Number: number, Kind: words[0]}
	switch words = words[1:]; e.Kind {
	case "publish":
		e.Names, e.Text = words[:1], strings.Join(words[1:], " ")
	case "correct":
		e.Names, e.Text = words[:2], strings.Join(words[2:], " ")
	case "decide", "appeal", "rule":
		for _, word := range words {
			n, _ := strconv.Atoi(word)
			e.Values = append(e.Values, n)
		}
	default:
		e.Names = words
	}
	return e
}

// events returns the events of lines, with the numbers from 1 on.
func events(lines ...string) []api.Event {
	return repeated(len(lines), func(i int) api.Event { return event(i+1, lines[i]) })
}

// after returns the office after the events of lines.
func after(t *testing.T, lines ...string) Office {
	t.Helper()
	o, place, e := Replay(events(lines...))
	if place != 0 || e != api.OK {
		t.Fatalf("%q: the error %v at the place %d", lines, e, place)
	}
	return o
}

const finalLine = "publish final ann=10.50 bea=10.40 cat=DNF"

// example returns the lines of the first events of the chapter's examples, and further ones.
func example(n int, more ...string) []string {
	l := []string{finalLine, "protest final bea", "decide 2 1", "appeal 2", "rule 2 0"}
	return slices.Concat(l[:n], more)
}

// final returns the sheet after the first event of the examples, with changes.
func final(changes ...func(s *Sheet)) Sheet {
	s := Sheet{"final", 1, "provisional", []api.Result{{Athlete: "ann", Mark: run(105000)}, {Athlete: "bea", Mark: run(104000)}, {Athlete: "cat", Mark: none("DNF")}}}
	for _, change := range changes {
		change(&s)
	}
	return s
}

// struckBea makes a sheet that after the third event of the examples.
func struckBea(s *Sheet) { s.Version, s.Results[1].Mark = 2, none("DQ") }

func version(n int) func(s *Sheet)    { return func(s *Sheet) { s.Version = n } }
func race(name string) func(s *Sheet) { return func(s *Sheet) { s.Race = name } }

func TestExample1(t *testing.T) {
	o := after(t, example(3)...)
	check(t, "the office", o, Office{
		[]Sheet{final(struckBea)},
		[]Strike{{"final", "bea", run(104000)}},
		[]Protest{{2, "final", "bea", "decided", true}},
	})
	places, e := Places(o, "final")
	checkBoth(t, "the places", places, e, []Place{{"ann", 1}}, api.OK)
	points, e := Points(o, "final", []int{10, 8})
	checkBoth(t, "the points", points, e, []int{10, 0, 0}, api.OK)
}

func TestExample2(t *testing.T) {
	o := after(t, example(5)...)
	check(t, "the office", o, Office{[]Sheet{final(version(3))}, nil, []Protest{{2, "final", "bea", "final", false}}})
	places, e := Places(o, "final")
	checkBoth(t, "the places", places, e, []Place{{"bea", 1}, {"ann", 2}}, api.OK)
	changes, e := Changed(after(t, example(3)...), o)
	checkBoth(t, "the changes", changes, e, []Change{{"final", "ann"}, {"final", "bea"}}, api.OK)
}

func TestExample3(t *testing.T) {
	check(t, "confirm after the event 3", Accepts(events(example(3)...), event(4, "confirm final")), api.OK)
	check(t, "confirm after the event 4", Accepts(events(example(4)...), event(5, "confirm final")), api.ErrOpen)
	for n, want := range map[int]api.Errno{2: api.ErrTwice, 3: api.OK, 4: api.ErrTwice, 5: api.OK} {
		check(t, fmt.Sprint("a second protest after the event ", n), Accepts(events(example(n)...), event(n+1, "protest final bea")), want)
	}
}

func TestExample4(t *testing.T) {
	f := Follower{[]Sheet{final(struckBea)}}
	kept, e := Receive(f, final())
	checkBoth(t, "with the version 1", kept, e, f, api.OK)
	newer, e := Receive(f, final(version(3)))
	checkBoth(t, "with the version 3", newer, e, Follower{[]Sheet{final(version(3))}}, api.OK)
	races, e := Behind(after(t, example(5)...), Follower{})
	checkBoth(t, "behind", races, e, []string{"final"}, api.OK)
}

func TestExample5(t *testing.T) {
	check(t, "the check sum of a", checkSum("a"), "aaaea")
	check(t, "the check sum of ab", checkSum("ab"), "aaamc")
}

func TestExample6(t *testing.T) {
	feed, e := Feed(events(example(5)...))
	checkBoth(t, "the feed", feed, e, []Sheet{final(), final(struckBea), final(version(3))}, api.OK)
}
