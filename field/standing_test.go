package field

import (
	"slices"
	"strings"
	"testing"

	"stadion/api"
)

// formCase is a card and its error.
type formCase struct {
	what string
	c    Card
	want api.Errno
}

// formCases returns cards of ann with the errors of their form.
func formCases() []formCase {
	many := strings.Repeat(" -", 24)
	off := strings.Repeat(" x", 24)
	l := []formCase{
		{"nothing", card("ann"), api.OK},
		{"retired", card("ann r"), api.OK},
		{"all clearances and passes", card("ann o xo xxo - x- o xx- o"), api.OK},
		{"as many as possible", card("ann" + many), api.OK},
		{"one too many", card("ann -" + many), api.ErrMany},
		{"one too many, and no text", card("ann ? " + many), api.ErrMany},
		{"as many rounds as possible", card("ann o |" + off), api.OK},
		{"a round too many", card("ann o | o" + off), api.ErrMany},
		{"a round too many, and no text", card("ann ? | ?" + off), api.ErrMany},
		{"a round without a height", card("ann | x o"), api.OK},
		{"an empty text", Card{Athlete: "ann", Heights: []string{""}}, api.ErrForm},
		{"an empty round", Card{Athlete: "ann", Off: []string{"o", ""}}, api.ErrForm},
		{"two texts in one", Card{Athlete: "ann", Heights: []string{"o o"}}, api.ErrForm},
		{"no name", Card{Athlete: "", Heights: make([]string, 25)}, api.ErrName},
		{"no name", Card{Athlete: "a-b", Heights: []string{"x", "x"}}, api.ErrName},
		// texts with an error stand in front of wrong ones
		{"no text behind a wrong one", card("ann x o ox"), api.ErrForm},
		{"no round behind a wrong text", card("ann x o | -"), api.ErrForm},
		// failures in a row
		{"out", card("ann xxx"), api.OK},
		{"out behind passes", card("ann x- x- x"), api.OK},
		{"out with two at once", card("ann x- - xx"), api.OK},
		{"four in a row", card("ann x- xxx"), api.ErrState},
		{"four in a row, with passes", card("ann x- - xx- x"), api.ErrState},
		{"five in a row", card("ann xx- xxx"), api.ErrState},
		{"five in a row, cleared", card("ann xx- - xxo"), api.ErrState},
		{"three in a row, cleared", card("ann x- xxo"), api.ErrState},
		{"three in a row, cleared at a later height", card("ann xx- - xo"), api.ErrState},
		{"three in a row, passed", card("ann xx- x-"), api.ErrState},
		{"a height after three in a row", card("ann xx- x- o"), api.ErrState},
		{"a height after three at once", card("ann xxx o"), api.ErrState},
		{"a height after three at once, passed", card("ann xxx -"), api.ErrState},
		{"two in a row, and two after a clearance", card("ann xx- o xx- o xx"), api.OK},
		{"two in a row up to a clearance", card("ann x- xo xxx"), api.OK},
		{"two in a row before and after", card("ann xxo xxo xxo"), api.OK},
		{"two in a row before a clearance, three after", card("ann xxo xxx"), api.OK},
		{"two in a row before a clearance, four after", card("ann xxo xx- xx"), api.ErrState},
		// heights that are not done
		{"not done at the last height", card("ann o x"), api.OK},
		{"not done at the last height", card("ann o xx r"), api.OK},
		{"not done before", card("ann x o"), api.ErrState},
		{"not done before", card("ann x x"), api.ErrState},
		{"not done in the middle", card("ann o xx -"), api.ErrState},
	}
	for _, text := range strings.Fields("x xx xxx o xo xxo - x- xx-") {
		l = append(l, formCase{"the text " + text, card("ann " + text), api.OK})
	}
	for _, text := range strings.Fields("xxxx xxxo xxx- oo ox -x -- o- -o xox xx-- xoo O X 0 r0 \x78\xff é retired x. :") {
		l = append(l, formCase{"the text " + text, card("ann " + text), api.ErrForm})
	}
	for _, text := range strings.Fields("o x") {
		l = append(l, formCase{"the round " + text, card("ann | x " + text), api.OK})
	}
	for _, text := range strings.Fields("- xo xx oo O X xxx") {
		l = append(l, formCase{"the round " + text, card("ann | x " + text), api.ErrForm})
	}
	return l
}

// checkOfCards checks the errors of cards, and that nothing stands beside them.
func checkOfCards(t *testing.T, what string, f func(v Vertical, l []Card) (any, api.Errno)) {
	t.Helper()
	e := func(v Vertical, l []Card) api.Errno {
		got, e := f(v, l)
		if e != api.OK {
			checkNothing(t, what, got)
		}
		return e
	}
	checkOfVertical(t, what, func(v Vertical) (any, api.Errno) {
		return nil, e(v, each(v.Athletes, func(name string) Card { return Card{Athlete: name, Heights: []string{"o"}, Off: []string{"x"}} }))
	})
	both := vertical("bob ann", 10, tens(24)...)
	for _, x := range formCases() {
		want := x.want
		if want == api.ErrName { // the athletes of a competition have names
			want = api.ErrUnknown
		}
		check(t, what+": "+x.what, e(both, []Card{card("bob o | o"), x.c}), want)
	}
	for _, x := range []struct {
		what string
		v    Vertical
		l    []Card
		want api.Errno
	}{
		{"none", exampleV(), nil, api.ErrShape},
		{"too few", exampleV(), cards("ann o | o"), api.ErrShape},
		{"too many", exampleV(), cards("ann o | o", "bob", "bob"), api.ErrShape},
		{"too many, without names", exampleV(), make([]Card, 33), api.ErrShape},
		{"no competition", Vertical{}, make([]Card, 33), api.ErrEmpty},
		{"as many as possible", Vertical{Athletes: names(32), Heights: []int{10}, Step: 10}, each(names(32), func(name string) Card { return card(name + " o | o") }), api.OK},
		{"another order", exampleV(), cards("bob o | o", "ann"), api.ErrUnknown},
		{"another athlete", exampleV(), cards("ann o | o", "cat ox"), api.ErrUnknown},
		{"a form, then another athlete", exampleV(), cards("ann ox", "cat o"), api.ErrForm},
		{"another athlete, then a form", exampleV(), cards("cat o", "bob ox"), api.ErrUnknown},
		{"as many texts as heights", exampleV(), cards("ann o o | o", "bob"), api.OK},
		{"more texts than heights", exampleV(), cards("ann o o | o", "bob o o o"), api.ErrMany},
		{"more texts than heights, and a state", exampleV(), cards("ann o o | o", "bob o x o"), api.ErrState},
		{"more texts than heights, then a form", exampleV(), cards("ann o o o", "bob ox"), api.ErrMany},
		{"as many rounds as heights and more", exampleV(), cards("ann o | o o o", "bob"), api.OK},
	} {
		check(t, what+": "+x.what, e(x.v, x.l), x.want)
	}
}

func TestCheckCards(t *testing.T) {
	checkOfCards(t, "CheckCards", func(v Vertical, l []Card) (any, api.Errno) { return nil, CheckCards(v, l) })
	checkOfCards(t, "Standing", func(v Vertical, l []Card) (any, api.Errno) { return Standing(v, l) })
	checkOfCards(t, "OffHeights", func(v Vertical, l []Card) (any, api.Errno) { return OffHeights(v, l) })
}

func TestStanding(t *testing.T) {
	for _, x := range []struct {
		what string
		l    []Card
		want []Place
	}{
		{"nothing yet", cards("ann", "bob"), places("ann 0 NM", "bob 0 NM")},
		{"retired at once", cards("ann r", "bob"), places("ann 0 DNS", "bob 0 NM")},
		{"retired later", cards("ann - r", "bob x r"), places("ann 0 NM", "bob 0 NM")},
		{"without a clearance", cards("ann xxx", "bob -", "cat x- xx", "dan xxo"), places("dan 1 10", "ann 0 NM", "bob 0 NM", "cat 0 NM")},
		{"the greater height", cards("ann o", "bob xxo xxo"), places("bob 1 20", "ann 2 10")},
		{"the greater height behind a pass", cards("ann o o", "bob - - xxo"), places("bob 1 30", "ann 2 20")},
		{"the height before failures", cards("ann o o xxx", "bob o - xo"), places("bob 1 30", "ann 2 20")},
		{"fewer failures at this height", cards("ann o xo", "bob xxo o"), places("bob 1 20", "ann 2 20")},
		{"fewer failures up to this height", cards("ann xo o", "bob o o"), places("bob 1 20", "ann 2 20")},
		{"fewer failures up to this height, at passes", cards("ann x- o", "bob - o"), places("bob 1 20", "ann 2 20")},
		{"fewer failures at an earlier height", cards("ann xxo o o", "bob xo o o"), places("bob 1 30", "ann 2 30")},
		{"failures behind this height count nothing", cards("ann o o xxx", "bob o o xx- -"), places("ann 1 20", "bob 1 20")},
		{"failures at this height count more", cards("ann o o xo", "bob xxo xxo o"), places("bob 1 30", "ann 2 30")},
		{"equal ones in their order", cards("cat o", "ann o", "bob xo"), places("cat 1 10", "ann 1 10", "bob 3 10")},
		{"equal ones behind the first one", cards("cat xo | x", "ann xo | o", "bob o"), places("bob 1 10", "cat 2 10", "ann 2 10")},
		{"retired behind the first one", cards("cat xo r", "ann xo", "bob o"), places("bob 1 10", "cat 2 10", "ann 2 10")},
		// the jump-off
		{"a clearance", cards("ann o | x", "bob o | o"), places("bob 1 10", "ann 2 10")},
		{"a failure is more than nothing", cards("ann o", "bob o | x"), places("bob 1 10", "ann 2 10")},
		{"a clearance is more than nothing", cards("ann o", "bob o | o"), places("bob 1 10", "ann 2 10")},
		{"the first difference", cards("ann o | x o", "bob o | o x"), places("bob 1 10", "ann 2 10")},
		{"a later difference", cards("ann o | x o x", "bob o | x o o"), places("bob 1 10", "ann 2 10")},
		{"a beginning is less", cards("ann o | x", "bob o | x x"), places("bob 1 10", "ann 2 10")},
		{"a beginning that is greater", cards("ann o | o", "bob o | x o o"), places("ann 1 10", "bob 2 10")},
		{"no difference", cards("ann o | x x", "bob o | x x"), places("ann 1 10", "bob 1 10")},
		{"three of them", cards("ann o | x", "bob o | o x", "cat o | o o"), places("cat 1 10", "bob 2 10", "ann 3 10")},
		{"two of them equal", cards("ann o | x", "bob o | o", "cat o | x"), places("bob 1 10", "ann 2 10", "cat 2 10")},
		{"the jump-off does not decide before heights", cards("ann o | x", "bob o | x", "cat xo | o"), places("ann 1 10", "bob 1 10", "cat 3 10")},
		// who has retired
		{"retired without a round", cards("ann o r", "bob o"), places("bob 1 10", "ann 2 10")},
		{"retired with equal rounds", cards("ann o | x r", "bob o | x", "cat o | x r"), places("bob 1 10", "ann 2 10", "cat 2 10")},
		{"retired with better rounds", cards("ann o | o r", "bob o | x"), places("ann 1 10", "bob 2 10")},
		{"retired with an attempt more", cards("ann o | x r", "bob o"), places("ann 1 10", "bob 2 10")},
		{"all retired", cards("ann o r", "bob o r"), places("ann 1 10", "bob 1 10")},
		{"a clearance with rounds alone", cards("ann | o r", "bob - | o"), places("ann 0 DNS", "bob 0 NM")},
	} {
		v := Vertical{Athletes: each(x.l, func(c Card) string { return c.Athlete }), Heights: []int{10, 20, 30, 40}, Step: 10}
		given := slices.Clone(x.l)
		p, e := Standing(v, x.l)
		check(t, x.what, p, x.want)
		check(t, x.what, e, api.OK)
		check(t, x.what+", the cards", x.l, given)
	}
}

func TestOffHeights(t *testing.T) {
	v := vertical("ann bob", 20, 10, 30, 999990)
	for _, x := range []struct {
		what string
		l    []Card
		want []int
	}{
		{"one round", cards("ann - o | o", "bob - o | o"), []int{50}},
		{"one attempt", cards("ann - o | o", "bob - o"), []int{50}},
		{"one attempt of the second one", cards("ann - o", "bob - o | x"), []int{50}},
		{"higher", cards("ann - o | o x", "bob - o | x"), []int{50, 70}},
		{"lower", cards("ann - o | x x", "bob - o | x"), []int{50, 30}},
		{"higher and lower", cards("ann - o | o x x o", "bob - o | x x o x x"), []int{50, 70, 50, 70, 90}},
		{"not below the step", cards("ann o | x x x o", "bob o | x x x o o"), []int{30, 20, 20, 20, 40}},
		{"just the step", cards("ann - o | x x x", "bob - o | x x x"), []int{50, 30, 20}},
		{"the height of the first one", cards("ann - o x | x", "bob o | o o"), []int{50, 70}},
		{"above the greatest length", cards("ann - - o | o o", "bob"), []int{1000010, 1000030}},
		{"as many rounds as possible", cards("ann - o |"+strings.Repeat(" o", 24), "bob"), func() []int {
			var l []int
			for i := range 24 {
				l = append(l, 50+20*i)
			}
			return l
		}()},
	} {
		given := slices.Clone(x.l)
		heights, e := OffHeights(v, x.l)
		check(t, x.what, heights, x.want)
		check(t, x.what, e, api.OK)
		check(t, x.what+", the cards", x.l, given)
	}
	for _, x := range [][]Card{cards("ann", "bob"), cards("ann o", "bob o r"), cards("ann xxx | o", "bob - | x"), cards("ann | o", "bob")} {
		heights, e := OffHeights(v, x)
		check(t, "no jump-off", e, api.ErrNone)
		checkNothing(t, "no jump-off", heights)
	}
}
