package field

import (
	"fmt"
	"reflect"
	"strconv"
	"strings"
	"testing"

	"stadion/api"
)

// check compares a result with what is wanted; nil and empty lists are equal.
func check(t *testing.T, what string, got, want any) {
	t.Helper()
	// the blanks of texts are those of lists without quotes, the characters of integers below 0 are all the same
	if g, w := fmt.Sprintf("%+v %q", got, got), fmt.Sprintf("%+v %q", want, want); g != w {
		t.Errorf("%s: got %+v, want %+v", what, got, want)
	}
}

// checkNothing checks that what stands beside an error is nothing.
func checkNothing(t *testing.T, what string, l ...any) {
	t.Helper()
	for _, x := range l {
		v := reflect.ValueOf(x)
		if x == nil || v.IsZero() || v.Kind() == reflect.Slice && v.Len() == 0 {
			continue
		}
		t.Errorf("%s: %+v beside an error", what, x)
	}
}

// rung is an error of a value, and what removes it.
type rung[T any] struct {
	want api.Errno
	fix  func(x *T)
}

// climb checks that a value with many errors has them in their order, by removing one after another.
func climb[T any](t *testing.T, what string, x T, e func(x T) api.Errno, rungs ...rung[T]) {
	t.Helper()
	for i, r := range rungs {
		if got := e(x); got != r.want {
			t.Fatalf("%s, the error %d: got %v, want %v", what, i, got, r.want)
		}
		r.fix(&x)
	}
	check(t, what+" without errors", e(x), api.OK)
}

// rangeCase is a number and whether it is in a range.
type rangeCase struct {
	n    int
	want api.Errno
}

// around returns the numbers at both ends of a range.
func around(least, greatest int) []rangeCase {
	return []rangeCase{
		{-1 << 63, api.ErrRange}, {least - 1, api.ErrRange}, {least, api.OK},
		{greatest, api.OK}, {greatest + 1, api.ErrRange}, {1<<63 - 1, api.ErrRange},
	}
}

// checkRange checks that a function has ErrRange for the numbers out of a range alone.
func checkRange(t *testing.T, what string, least, greatest int, f func(n int) api.Errno) {
	t.Helper()
	for _, x := range around(least, greatest) {
		check(t, what+" "+strconv.Itoa(x.n), f(x.n), x.want)
	}
}

func lengthOf(n int) api.Mark       { return api.Mark{Kind: "length", Value: n} }
func noneOf(reason string) api.Mark { return api.Mark{Kind: "none", Reason: reason} }

// names returns so many different names.
func names(n int) []string {
	var l []string
	for i := range n {
		l = append(l, "a"+strconv.Itoa(i))
	}
	return l
}

// throws returns the acts of a text in pairs of an athlete and a mark, F, P or r for retiring.
func throws(text string) []Act {
	var l []Act
	words := strings.Fields(text)
	for i := 0; i < len(words); i += 2 {
		a := Act{Athlete: words[i], Kind: map[string]string{"F": "foul", "P": "pass", "r": "retire"}[words[i+1]]}
		if a.Kind == "" {
			a.Kind = "mark"
			a.Value, _ = strconv.Atoi(words[i+1])
		}
		l = append(l, a)
	}
	return l
}

// jumps returns the acts of a text in pairs of an athlete and o, x, - or r for retiring.
func jumps(text string) []Act {
	var l []Act
	words := strings.Fields(text)
	for i := 0; i < len(words); i += 2 {
		kinds := map[string]string{"o": "clear", "x": "fail", "-": "pass", "r": "retire"}
		l = append(l, Act{Athlete: words[i], Kind: kinds[words[i+1]]})
	}
	return l
}

// row returns the row of a text of a name, marks, F and P, and perhaps r behind them.
func row(text string) Row {
	words := strings.Fields(text)
	r := Row{Athlete: words[0]}
	for _, word := range words[1:] {
		switch n, _ := strconv.Atoi(word); word {
		case "F":
			r.Trials = append(r.Trials, Foul)
		case "P":
			r.Trials = append(r.Trials, Pass)
		case "r":
			r.Retired = true
		default:
			r.Trials = append(r.Trials, n)
		}
	}
	return r
}

func rows(l ...string) []Row { return each(l, row) }

// card returns the card of a text of a name, texts, perhaps | and those of a jump-off, and perhaps r.
func card(text string) Card {
	words := strings.Fields(text)
	c := Card{Athlete: words[0]}
	off := false
	for _, word := range words[1:] {
		switch {
		case word == "r":
			c.Retired = true
		case word == "|":
			off = true
		case off:
			c.Off = append(c.Off, word)
		default:
			c.Heights = append(c.Heights, word)
		}
	}
	return c
}

func cards(l ...string) []Card { return each(l, card) }

// places returns the places of texts of a name, a rank, and a mark or a reason.
func places(l ...string) []Place {
	return each(l, func(text string) Place {
		words := strings.Fields(text)
		rank, _ := strconv.Atoi(words[1])
		value, e := strconv.Atoi(words[2])
		if e != nil {
			return Place{words[0], rank, noneOf(words[2])}
		}
		return Place{words[0], rank, lengthOf(value)}
	})
}

// exampleC returns the competition C of the chapter's examples, exampleV the competition V.
func exampleC() Contest {
	return Contest{Athletes: []string{"ann", "bob", "cat"}, Trials: 2, Finalists: 2, More: 1}
}

func exampleV() Vertical {
	return Vertical{Athletes: []string{"ann", "bob"}, Heights: []int{1800, 1850}, Step: 20}
}

const exampleThrows = "ann 5004 bob F cat 4800 ann F bob 5000 cat 4900 "

func TestExample1(t *testing.T) {
	l, aside, e := Compete(exampleC(), throws(exampleThrows))
	check(t, "the rows", l, rows("ann 5000 F", "bob F 5000", "cat 4800 4900"))
	check(t, "nothing is set aside", aside, []Refusal{})
	check(t, "Compete", e, api.OK)
	p, e := Ranking(l)
	check(t, "the ranks", p, places("ann 1 5000", "bob 1 5000", "cat 3 4900"))
	check(t, "Ranking", e, api.OK)
	f, e := Finalists(exampleC(), l)
	check(t, "the finalists", f, []string{"ann", "bob"})
	check(t, "Finalists", e, api.OK)
	who, n, e := Next(exampleC(), throws(exampleThrows))
	check(t, "the next trial", []any{who, n, e}, []any{"ann", 3, api.OK})
	l, aside, e = Compete(exampleC(), throws(exampleThrows+"cat 5000 dan 5000"))
	check(t, "the rows", l, rows("ann 5000 F", "bob F 5000", "cat 4800 4900"))
	check(t, "what is set aside", aside, []Refusal{{7, 3}, {8, 1}})
	check(t, "Compete", e, api.OK)
}

func TestExample2(t *testing.T) {
	l := throws(exampleThrows + "ann 4900 bob P")
	r, aside, e := Compete(exampleC(), l)
	check(t, "the rows", r, rows("ann 5000 F 4900", "bob F 5000 P", "cat 4800 4900"))
	check(t, "nothing is set aside", aside, []Refusal{})
	check(t, "Compete", e, api.OK)
	_, _, e = Next(exampleC(), l)
	check(t, "it is over", e, api.ErrOver)
	p, e := Ranking(r)
	check(t, "the places", p, places("ann 1 5000", "bob 2 5000", "cat 3 4900"))
	check(t, "Ranking", e, api.OK)
}

func TestExample3(t *testing.T) {
	l, aside, e := Jump(exampleV(), jumps("ann o bob x bob o ann x bob o ann x ann x"))
	check(t, "the cards", l, cards("ann o xxx", "bob xo o"))
	check(t, "nothing is set aside", aside, []Refusal{})
	check(t, "Jump", e, api.OK)
	p, e := Standing(exampleV(), l)
	check(t, "the places", p, places("bob 1 1850", "ann 2 1800"))
	check(t, "Standing", e, api.OK)
}

// bothAtOnce are the acts of example 4 up to the jump-off.
const bothAtOnce = "ann o bob o ann x bob x ann x bob x ann x bob x "

func TestExample4(t *testing.T) {
	for acts, want := range map[string]int{"": 1820, "ann x bob x": 1800} {
		who, height, e := Due(exampleV(), jumps(bothAtOnce+acts))
		check(t, "who is next", []any{who, height, e}, []any{"ann", want, api.OK})
	}
	l, aside, e := Jump(exampleV(), jumps(bothAtOnce+"ann x bob x ann o bob x"))
	check(t, "the cards", l, cards("ann o xxx | x o", "bob o xxx | x x"))
	check(t, "nothing is set aside", aside, []Refusal{})
	check(t, "Jump", e, api.OK)
	p, e := Standing(exampleV(), l)
	check(t, "the places", p, places("ann 1 1800", "bob 2 1800"))
	check(t, "Standing", e, api.OK)
	heights, e := OffHeights(exampleV(), l)
	check(t, "the heights", heights, []int{1820, 1800})
	check(t, "OffHeights", e, api.OK)
}

func TestExample5(t *testing.T) {
	s, e := PrintCard(card("ann o xxx | x o"))
	check(t, "the text", s, "ann: o xxx | x o")
	check(t, "PrintCard", e, api.OK)
	c, e := ParseCard("ann: o xxx | x o")
	check(t, "the card", c, card("ann o xxx | x o"))
	check(t, "ParseCard", e, api.OK)
}

func TestExample6(t *testing.T) {
	n, e := Throw(30000, 40000, "1", 1000)
	check(t, "the throw", n, 49000)
	check(t, "Throw", e, api.OK)
	n, e = Leap([2]int{0, 0}, [2]int{1220, 0}, [2]int{3000, 4000})
	check(t, "the jump", n, 4000)
	check(t, "Leap", e, api.OK)
	for slope, want := range map[api.Rat]bool{"4/5": true, "3/4": false} {
		is, e := InSector([2]int{3000, 4000}, slope)
		check(t, "in the sector", is, want)
		check(t, "InSector", e, api.OK)
	}
}
