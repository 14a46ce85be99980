package finish

import (
	"fmt"
	"slices"
	"strings"
	"testing"

	"stadion/api"
)

// check compares a result with what is wanted; nil and empty lists are equal.
func check(t *testing.T, what string, got, want any) {
	t.Helper()
	if g, w := fmt.Sprintf("%+v", got), fmt.Sprintf("%+v", want); g != w {
		t.Errorf("%s: got %s, want %s", what, g, w)
	}
}

// checkNothing checks that what stands beside an error is nothing.
func checkNothing(t *testing.T, what string, got any) {
	t.Helper()
	switch x := got.(type) {
	case Image:
		if x.Rows == 0 && len(x.Columns) == 0 {
			return
		}
	case []string:
		if len(x) == 0 {
			return
		}
	case []Line:
		if len(x) == 0 {
			return
		}
	case []int:
		if len(x) == 0 {
			return
		}
	case [][2]int:
		if len(x) == 0 {
			return
		}
	case nil, int, string, bool, api.Rat, api.Span, api.Mark, Clock:
		if slices.Contains([]any{nil, 0, "", false, api.Rat(""), api.Span{}, api.Mark{}, Clock{}}, got) {
			return
		}
	}
	t.Errorf("%s: %+v beside an error", what, got)
}

// rung is an error of a value, and what removes it.
type rung[T any] struct {
	want api.Errno
	fix  func(x *T)
}

// climb checks that a value with many errors has them in their order, by removing one after another.
func climb[T any](t *testing.T, what string, x T, e func(x T) api.Errno, rungs ...rung[T]) {
	t.Helper()
	for i, r := range rungs {
		if got := e(x); got != r.want {
			t.Fatalf("%s, the error %d: got %v, want %v", what, i, got, r.want)
		}
		r.fix(&x)
	}
	check(t, what+" without errors", e(x), api.OK)
}

// rangeCase is a number and whether it is in a range.
type rangeCase struct {
	n    int
	want api.Errno
}

// around returns the numbers at both ends of a range.
func around(least, greatest int) []rangeCase {
	return []rangeCase{
		{-1 << 63, api.ErrRange}, {least - 1, api.ErrRange}, {least, api.OK},
		{greatest, api.OK}, {greatest + 1, api.ErrRange}, {1<<63 - 1, api.ErrRange},
	}
}

// checkRange checks that a function has ErrRange for the numbers out of a range alone, and nothing beside it.
func checkRange(t *testing.T, what string, least, greatest int, f func(n int) (any, api.Errno)) {
	t.Helper()
	for _, x := range around(least, greatest) {
		got, e := f(x.n)
		check(t, what, e, x.want)
		if e != api.OK {
			checkNothing(t, what, got)
		}
	}
}

func timeOf(n int) api.Mark              { return api.Mark{Kind: "time", Value: n} }
func spanOf(low, high api.Rat) api.Span  { return api.Span{Low: low, High: high} }
func image(rows int, l ...string) Image  { return Image{rows, l} }
func clockOf(start, step api.Rat) Clock  { return Clock{start, step} }
func repeated[T any](x T, times int) []T { return slices.Repeat([]T{x}, times) }

// example returns the image X of the chapter's examples.
func example() Image { return image(3, "...", ".a.", "aA.", ".Ab", ".BB", ".BB") }

// exampleClock returns the clock K of the chapter's examples.
func exampleClock() Clock { return clockOf("100000", "5") }

// nines is the greatest integer that is a number, longer the least one that is not.
func nines() api.Rat  { return api.Rat(strings.Repeat("9", 600)) }
func longer() api.Rat { return api.Rat("1" + strings.Repeat("0", 600)) }

func TestExample1(t *testing.T) {
	text, e := Pack(example())
	check(t, "the text", text, "1 ...\n1 .a.\n1 aA.\n1 .Ab\n2 .BB\n")
	check(t, "Pack", e, api.OK)
	torsos, e := Torsos(example())
	check(t, "the torsos", torsos, []string{"A", "B"})
	check(t, "Torsos", e, api.OK)
	for athlete, want := range map[string]int{"A": 2, "B": 4} {
		at, e := First(example(), athlete)
		check(t, "the first column", at, want)
		check(t, "First", e, api.OK)
	}
}

func TestExample2(t *testing.T) {
	a, e := Reading(example(), exampleClock(), "A")
	check(t, "the reading of A", a, spanOf("100010", "100015"))
	check(t, "Reading", e, api.OK)
	b, e := Reading(example(), exampleClock(), "B")
	check(t, "the reading of B", b, spanOf("100020", "100025"))
	check(t, "Reading", e, api.OK)
	n, e := Separated(a, b)
	check(t, "A is earlier", n, -1)
	check(t, "Separated", e, api.OK)
	for _, s := range []api.Span{a, b} {
		m, e := Official(s, "hundredths")
		check(t, "the official mark", m, timeOf(100100))
		check(t, "Official", e, api.OK)
	}
	for class, want := range map[string][]Line{
		"hundredths": {{"A", 1, timeOf(100100)}, {"B", 1, timeOf(100100)}},
		"exact":      {{"A", 1, timeOf(100015)}, {"B", 2, timeOf(100025)}},
	} {
		l, e := Result(example(), exampleClock(), class)
		check(t, "the result", l, want)
		check(t, "Result", e, api.OK)
	}
}

func TestExample3(t *testing.T) {
	for _, x := range []struct {
		l         []Pulse
		tolerance int
		c         Clock
		want      api.Errno
	}{
		{[]Pulse{{0, 100000}, {10, 100050}}, 0, exampleClock(), api.OK},
		{[]Pulse{{0, 100000}, {4, 100021}, {10, 100050}}, 1, exampleClock(), api.OK},
		{[]Pulse{{0, 100000}, {4, 100021}, {10, 100050}}, 0, Clock{}, api.ErrConflict},
	} {
		c, e := Calibrate(x.l, x.tolerance)
		check(t, "the clock", c, x.c)
		check(t, "Calibrate", e, x.want)
	}
}

func TestExample4(t *testing.T) {
	n, _ := Separated(spanOf("1", "2"), spanOf("2", "3"))
	check(t, "1 to 2 and 2 to 3", n, -1)
	n, _ = Separated(spanOf("1", "3"), spanOf("2", "4"))
	check(t, "1 to 3 and 2 to 4", n, 0)
	ties, e := Ties([]api.Span{spanOf("1", "2"), spanOf("1", "2"), spanOf("2", "4")})
	check(t, "the ties", ties, [][2]int{{0, 1}})
	check(t, "Ties", e, api.OK)
}

func TestExample5(t *testing.T) {
	n, e := Reaction([]int{0, 5, 30, 80}, 400, 20)
	check(t, "the reaction", n, 800)
	check(t, "Reaction", e, api.OK)
	lanes, e := FalseStarts([]int{800, 1000, -1})
	check(t, "the false starts", lanes, []int{1})
	check(t, "FalseStarts", e, api.OK)
}

func TestExample6(t *testing.T) {
	m, e := Watch([]int{101234, 102000, 101900})
	check(t, "three watches", m, timeOf(102000))
	check(t, "Watch", e, api.OK)
	m, e = Watch([]int{101000, 103400})
	check(t, "two watches", m, timeOf(104000))
	check(t, "Watch", e, api.OK)
	for tolerance, want := range map[int]bool{400: true, 399: false} {
		is, e := Agree(spanOf("101500", "101600"), timeOf(102000), tolerance)
		check(t, "whether it agrees", is, want)
		check(t, "Agree", e, api.OK)
	}
}
