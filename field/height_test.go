package field

import (
	"strconv"
	"strings"
	"testing"

	"stadion/api"
)

func vertical(names string, step int, heights ...int) Vertical {
	return Vertical{Athletes: strings.Fields(names), Heights: heights, Step: step}
}

// tens returns so many heights, each one 10 above the one before.
func tens(n int) []int {
	var l []int
	for i := range n {
		l = append(l, 10*i+10)
	}
	return l
}

// checkOfVertical checks the errors of a competition over heights, and that nothing stands beside them.
func checkOfVertical(t *testing.T, what string, f func(v Vertical) (any, api.Errno)) {
	t.Helper()
	e := func(v Vertical) api.Errno {
		got, e := f(v)
		if e != api.OK {
			checkNothing(t, what, got)
		}
		return e
	}
	checkOfAthletes(t, what, func(l []string) api.Errno { return e(Vertical{Athletes: l, Heights: []int{10}, Step: 10}) })
	for _, x := range []struct {
		what    string
		heights []int
		want    api.Errno
	}{
		{"none", nil, api.ErrEmpty},
		{"one", []int{1800}, api.OK},
		{"as many as possible", tens(24), api.OK},
		{"one too many", tens(25), api.ErrMany},
		{"one too many, and 0", make([]int, 25), api.ErrMany},
		{"the least and the greatest one", []int{10, 999990}, api.OK},
		{"0", []int{0}, api.ErrRange},
		{"a multiple below 0", []int{-10}, api.ErrRange},
		{"too great a multiple", []int{1000000}, api.ErrRange},
		{"no multiple", []int{15}, api.ErrRange},
		{"no multiple, below 10", []int{9}, api.ErrRange},
		{"the greatest length", []int{999999}, api.ErrRange},
		{"the second one is no multiple", []int{10, 21}, api.ErrRange},
		{"twice the same", []int{1800, 1800}, api.ErrOrder},
		{"descending", []int{1800, 1790}, api.ErrOrder},
		{"by 10", []int{1800, 1810}, api.OK},
		{"descending at last", []int{10, 1800, 1810, 1800}, api.ErrOrder},
		{"descending and no multiple", []int{1800, 1795}, api.ErrRange},
		{"descending, then no multiple", []int{1800, 1790, 1801}, api.ErrOrder},
		{"no multiple, then descending", []int{1800, 1801, 1790}, api.ErrRange},
		{"the least integers", []int{-1 << 63, 1<<63 - 1}, api.ErrRange},
	} {
		check(t, what+", heights: "+x.what, e(Vertical{Athletes: []string{"ann"}, Heights: x.heights, Step: 10}), x.want)
	}
	checkRange(t, what+", the step", 10, 1000, func(n int) api.Errno { return e(vertical("ann", n, 10)) })
	for n, want := range map[int]api.Errno{0: api.ErrRange, 5: api.ErrRange, 15: api.ErrRange, 20: api.OK, 999: api.ErrRange, 990: api.OK, -10: api.ErrRange, 1010: api.ErrRange} {
		check(t, what+", the step "+strconv.Itoa(n), e(vertical("ann", n, 10)), want)
	}
	climb(t, what, Vertical{}, e,
		rung[Vertical]{api.ErrEmpty, func(v *Vertical) { v.Athletes = []string{"1"} }},
		rung[Vertical]{api.ErrName, func(v *Vertical) { v.Athletes = []string{"ann"} }},
		rung[Vertical]{api.ErrEmpty, func(v *Vertical) { v.Heights = []int{20, 10} }},
		rung[Vertical]{api.ErrOrder, func(v *Vertical) { v.Heights = []int{20, 30} }},
		rung[Vertical]{api.ErrRange, func(v *Vertical) { v.Step = 10 }})
}

func TestCheckVertical(t *testing.T) {
	checkOfVertical(t, "CheckVertical", func(v Vertical) (any, api.Errno) { return nil, CheckVertical(v) })
	checkOfVertical(t, "Jump", func(v Vertical) (any, api.Errno) {
		l, aside, e := Jump(v, jumps("zoe o"))
		if e != api.OK {
			checkNothing(t, "Jump", aside)
		}
		return l, e
	})
	checkOfVertical(t, "Due", func(v Vertical) (any, api.Errno) {
		who, height, e := Due(v, nil)
		if e != api.OK {
			checkNothing(t, "Due", who, height)
		}
		return nil, e
	})
}

func TestErrorsOfHeights(t *testing.T) {
	for _, x := range []struct {
		v    Vertical
		l    []Act
		want api.Errno
	}{
		{Vertical{}, jumps("- o"), api.ErrEmpty},
		{vertical("ann", 0, 10), jumps("- o"), api.ErrRange},
		{vertical("ann", 10, 10), jumps("- o"), api.ErrName},
		{vertical("ann", 10, 10), jumps("bob o - o"), api.ErrName},
		{vertical("ann", 10, 10), throws("ann F"), api.ErrKind},
		{vertical("ann", 10, 10), []Act{{"ann", "clear", 1}, {}}, api.ErrRange},
		{vertical("ann", 10, 10), make([]Act, 1001), api.ErrMany},
		{vertical("ann", 10, 10), make([]Act, 1000), api.ErrName},
	} {
		l, aside, e := Jump(x.v, x.l)
		check(t, "Jump", e, x.want)
		checkNothing(t, "Jump", l, aside)
		who, n, e := Due(x.v, x.l)
		check(t, "Due", e, x.want)
		checkNothing(t, "Due", who, n)
	}
	l, aside, e := Jump(vertical("ann", 10, 10), jumps(strings.Repeat("bob o ", 1000)))
	check(t, "as many acts as possible", e, api.OK)
	check(t, "as many acts as possible", l, cards("ann"))
	check(t, "all of them are set aside", len(aside), 1000)
	check(t, "the last one", aside[999], Refusal{1000, 1})
}

// jumpCase is acts over heights, the cards after them, what is set aside, and who is next.
type jumpCase struct {
	acts   string
	want   []Card
	aside  []Refusal
	next   string
	height int
}

func (x jumpCase) check(t *testing.T, v Vertical) {
	t.Helper()
	l, aside, e := Jump(v, jumps(x.acts))
	check(t, x.acts, l, x.want)
	check(t, x.acts+", set aside", aside, x.aside)
	check(t, x.acts, e, api.OK)
	check(t, x.acts+", the form of the cards", CheckCards(v, l), api.OK)
	who, height, e := Due(v, jumps(x.acts))
	if x.next == "" {
		check(t, x.acts+", over", e, api.ErrOver)
		checkNothing(t, x.acts, who, height)
		return
	}
	check(t, x.acts+", the next one", who+strconv.Itoa(height), x.next+strconv.Itoa(x.height))
	check(t, x.acts, e, api.OK)
}

func TestHeights(t *testing.T) {
	v := vertical("ann bob cat", 20, 1800, 1850, 1900)
	for _, x := range []jumpCase{
		{"", cards("ann", "bob", "cat"), nil, "ann", 1800},
		{"ann o", cards("ann o", "bob", "cat"), nil, "bob", 1800},
		{"ann x", cards("ann x", "bob", "cat"), nil, "bob", 1800},
		{"ann -", cards("ann -", "bob", "cat"), nil, "bob", 1800},
		{"ann x bob x cat x", cards("ann x", "bob x", "cat x"), nil, "ann", 1800},
		{"ann x bob o cat -", cards("ann x", "bob o", "cat -"), nil, "ann", 1800},
		{"ann x bob o cat x ann x", cards("ann xx", "bob o", "cat x"), nil, "cat", 1800},
		{"ann x bob o cat x ann x cat o", cards("ann xx", "bob o", "cat xo"), nil, "ann", 1800},
		{"ann x bob o cat x ann x cat o ann o", cards("ann xxo", "bob o", "cat xo"), nil, "ann", 1850},
		{"ann x bob o cat x ann x cat o ann x", cards("ann xxx", "bob o", "cat xo"), nil, "bob", 1850},
		// passes
		{"ann - bob - cat -", cards("ann -", "bob -", "cat -"), nil, "ann", 1850},
		{"ann - bob - cat - ann - bob - cat - ann - bob - cat -", cards("ann - - -", "bob - - -", "cat - - -"), nil, "", 0},
		{"ann x bob - cat - ann - ann x", cards("ann x- x", "bob -", "cat -"), nil, "bob", 1850},
		{"ann x bob - cat - ann - ann x bob - cat - ann x bob o", cards("ann x- xx", "bob - - o", "cat - -"), nil, "cat", 1900},
		{"ann x bob - cat - ann x ann - ann x ann o", cards("ann xx- x", "bob -", "cat -"), []Refusal{{7, 2}}, "bob", 1850},
		{"ann x bob - cat - ann x ann - ann o bob - cat - ann x bob - cat - ann x", cards("ann xx- o xx", "bob - - -", "cat - - -"), nil, "ann", 1900},
		// what is refused
		{"dan o dan r", cards("ann", "bob", "cat"), []Refusal{{1, 1}, {2, 1}}, "ann", 1800},
		{"bob o bob - cat x", cards("ann", "bob", "cat"), []Refusal{{1, 3}, {2, 3}, {3, 3}}, "ann", 1800},
		{"ann o ann o ann x ann -", cards("ann o", "bob", "cat"), []Refusal{{2, 3}, {3, 3}, {4, 3}}, "bob", 1800},
		{"ann x ann x", cards("ann x", "bob", "cat"), []Refusal{{2, 3}}, "bob", 1800},
		// who is out
		{"ann x bob o cat o ann x ann x ann x ann o ann - ann r", cards("ann xxx", "bob o", "cat o"), []Refusal{{6, 2}, {7, 2}, {8, 2}, {9, 2}}, "bob", 1850},
		{"ann x bob o cat o ann x ann x bob x cat x ann o", cards("ann xxx", "bob o x", "cat o x"), []Refusal{{8, 2}}, "bob", 1850},
		{"ann x bob x cat x ann x bob x cat x ann x bob x cat x", cards("ann xxx", "bob xxx", "cat xxx"), nil, "", 0},
		{"ann x bob x cat x ann x bob x cat x ann x bob x cat x ann r bob o dan x", cards("ann xxx", "bob xxx", "cat xxx"), []Refusal{{10, 2}, {11, 2}, {12, 1}}, "", 0},
		// who has retired
		{"ann r", cards("ann r", "bob", "cat"), nil, "bob", 1800},
		{"bob r ann o", cards("ann o", "bob r", "cat"), nil, "cat", 1800},
		{"ann o ann r bob o cat o", cards("ann o r", "bob o", "cat o"), nil, "bob", 1850},
		{"ann x ann r ann r ann o bob o", cards("ann x r", "bob o", "cat"), []Refusal{{3, 2}, {4, 2}}, "cat", 1800},
		{"ann r bob r cat r", cards("ann r", "bob r", "cat r"), nil, "", 0},
		{"ann r bob x cat x bob r cat x cat x", cards("ann r", "bob x r", "cat xxx"), nil, "", 0},
		{"ann r bob r cat r cat o cat r dan r", cards("ann r", "bob r", "cat r"), []Refusal{{4, 2}, {5, 2}, {6, 1}}, "", 0},
		// the last one goes on alone
		{"ann r bob r cat o cat o", cards("ann r", "bob r", "cat o o"), nil, "cat", 1900},
		{"ann r bob r cat o cat o cat x cat x", cards("ann r", "bob r", "cat o o xx"), nil, "cat", 1900},
		{"ann r bob r cat o cat o cat x cat x cat o cat o cat r", cards("ann r", "bob r", "cat o o xxo"), []Refusal{{8, 2}, {9, 2}}, "", 0},
		{"ann r bob r cat o cat o cat x cat x cat x", cards("ann r", "bob r", "cat o o xxx"), nil, "", 0},
	} {
		x.check(t, v)
	}
	jumpCase{"ann o", cards("ann o"), nil, "", 0}.check(t, vertical("ann", 10, 10))
	jumpCase{"ann x ann x ann x", cards("ann xxx"), nil, "", 0}.check(t, vertical("ann", 10, 10, 20))
}

func TestJumpOff(t *testing.T) {
	v := vertical("ann bob cat", 20, 1800)
	for _, x := range []jumpCase{
		// who takes part
		{"ann o bob o cat o", cards("ann o", "bob o", "cat o"), nil, "ann", 1820},
		{"ann o bob x cat o bob o", cards("ann o", "bob xo", "cat o"), nil, "ann", 1820},
		{"ann o bob x cat o bob o ann x bob x bob r", cards("ann o | x", "bob xo", "cat o"), []Refusal{{6, 2}, {7, 2}}, "cat", 1820},
		{"ann x bob o cat o ann x ann x", cards("ann xxx", "bob o", "cat o"), nil, "bob", 1820},
		{"ann x bob o cat x ann o cat o", cards("ann xo", "bob o", "cat xo"), nil, "", 0},
		{"ann x bob - cat - ann x ann x", cards("ann xxx", "bob -", "cat -"), nil, "", 0},
		{"ann - bob - cat o", cards("ann -", "bob -", "cat o"), nil, "", 0},
		{"ann o ann r bob o cat o", cards("ann o r", "bob o", "cat o"), nil, "bob", 1820},
		{"ann o ann r bob o bob r cat o", cards("ann o r", "bob o r", "cat o"), nil, "", 0},
		{"ann o ann r bob o bob r cat r", cards("ann o r", "bob o r", "cat r"), nil, "", 0},
		{"ann o bob o cat x cat r", cards("ann o", "bob o", "cat x r"), nil, "ann", 1820},
		{"ann o bob o cat x ann r bob r cat o", cards("ann o r", "bob o r", "cat xo"), nil, "", 0},
		// a round
		{"ann o bob o cat o bob x ann o", cards("ann o | o", "bob o", "cat o"), []Refusal{{4, 3}}, "bob", 1820},
		{"ann o bob o cat o ann - bob - ann x", cards("ann o | x", "bob o", "cat o"), []Refusal{{4, 4}, {5, 3}}, "bob", 1820},
		{"ann o bob o cat o dan x ann x ann o", cards("ann o | x", "bob o", "cat o"), []Refusal{{4, 1}, {6, 3}}, "bob", 1820},
		{"ann o bob o cat o ann x bob x cat x", cards("ann o | x", "bob o | x", "cat o | x"), nil, "ann", 1800},
		{"ann o bob o cat o ann o bob o cat o", cards("ann o | o", "bob o | o", "cat o | o"), nil, "ann", 1840},
		{"ann o bob o cat o ann x bob o cat o", cards("ann o | x", "bob o | o", "cat o | o"), nil, "bob", 1840},
		{"ann o bob o cat o ann x bob o cat o ann x ann r bob x cat x bob x", cards("ann o | x", "bob o | o x x", "cat o | o x"), []Refusal{{7, 2}, {8, 2}}, "cat", 1820},
		{"ann o bob o cat o ann x bob o cat x", cards("ann o | x", "bob o | o", "cat o | x"), nil, "", 0},
		{"ann o bob o cat o ann x bob o cat x bob r cat x dan r", cards("ann o | x", "bob o | o", "cat o | x"), []Refusal{{7, 2}, {8, 2}, {9, 1}}, "", 0},
		{"ann o bob o cat o ann x bob x cat x ann x bob x cat x", cards("ann o | x x", "bob o | x x", "cat o | x x"), nil, "ann", 1780},
		{"ann o bob o cat o ann x bob x cat x ann o bob o cat o", cards("ann o | x o", "bob o | x o", "cat o | x o"), nil, "ann", 1820},
		{"ann o bob o cat o ann x bob x cat x ann o bob o cat x ann x bob o", cards("ann o | x o x", "bob o | x o o", "cat o | x x"), nil, "", 0},
		// who retires in the jump-off
		{"ann o bob o cat o ann r", cards("ann o r", "bob o", "cat o"), nil, "bob", 1820},
		{"ann o bob o cat o ann r ann r ann x", cards("ann o r", "bob o", "cat o"), []Refusal{{5, 2}, {6, 2}}, "bob", 1820},
		{"ann o bob o cat o cat r ann x bob x", cards("ann o | x", "bob o | x", "cat o r"), nil, "ann", 1800},
		{"ann o bob o cat o ann x bob r", cards("ann o | x", "bob o r", "cat o"), nil, "cat", 1820},
		{"ann o bob o cat o ann x bob x cat r", cards("ann o | x", "bob o | x", "cat o r"), nil, "ann", 1800},
		{"ann o bob o cat o ann r bob r", cards("ann o r", "bob o r", "cat o"), nil, "", 0},
		{"ann o bob o cat o ann x bob r cat r ann o", cards("ann o | x", "bob o r", "cat o r"), []Refusal{{7, 2}}, "", 0},
		// who has cleared the height counts, also after having retired
		{"ann o bob o cat o ann o ann r", cards("ann o | o r", "bob o", "cat o"), nil, "bob", 1820},
		{"ann o bob o cat o ann o ann r bob x cat x", cards("ann o | o r", "bob o | x", "cat o | x"), nil, "", 0},
		{"ann o bob o cat o ann o ann r bob x cat o", cards("ann o | o r", "bob o | x", "cat o | o"), nil, "", 0},
		{"ann o bob o cat o ann o ann r bob o cat o", cards("ann o | o r", "bob o | o", "cat o | o"), nil, "bob", 1840},
		{"ann o bob o cat o ann x ann r bob x cat x", cards("ann o | x r", "bob o | x", "cat o | x"), nil, "bob", 1800},
		{"ann o bob o cat o ann o bob o cat x ann r", cards("ann o | o r", "bob o | o", "cat o | x"), nil, "", 0},
		{"ann o bob o cat o ann x bob x cat x ann r bob x cat x", cards("ann o | x r", "bob o | x x", "cat o | x x"), nil, "bob", 1780},
	} {
		x.check(t, v)
	}
}

func TestHeightsOfJumpOff(t *testing.T) {
	low := vertical("ann bob", 30, 10)
	for _, x := range []jumpCase{
		{"ann o bob o", cards("ann o", "bob o"), nil, "ann", 40},
		{"ann o bob o ann x bob x", cards("ann o | x", "bob o | x"), nil, "ann", 30},
		{"ann o bob o ann x bob x ann x bob x", cards("ann o | x x", "bob o | x x"), nil, "ann", 30},
		{"ann o bob o ann x bob x ann o bob o", cards("ann o | x o", "bob o | x o"), nil, "ann", 60},
		{"ann o bob o ann x bob x ann x bob x ann x bob x ann o bob o", cards("ann o | x x x o", "bob o | x x x o"), nil, "ann", 60},
	} {
		x.check(t, low)
	}
	jumpCase{"ann o bob o", cards("ann o", "bob o"), nil, "ann", 1000990}.check(t, vertical("ann bob", 1000, 999990))
	// the height of those who are first, which may be below that of others
	v := vertical("ann bob cat", 20, 1800, 1850, 1900)
	jumpCase{"ann o bob o cat x cat x cat x ann x bob x ann x bob x ann x bob x", cards("ann o xxx", "bob o xxx", "cat xxx"), nil, "ann", 1820}.check(t, v)
	jumpCase{"ann - bob - cat x cat x cat x ann o bob o ann r bob - ", cards("ann - o r", "bob - o -", "cat xxx"), nil, "", 0}.check(t, v)
	jumpCase{"ann - bob - cat x cat x cat x ann o bob o ann - bob -", cards("ann - o -", "bob - o -", "cat xxx"), nil, "ann", 1870}.check(t, v)
	// behind the last round
	v = vertical("ann bob", 10, 500)
	last := "ann o bob o" + strings.Repeat(" ann x bob x", 23)
	off := strings.Repeat(" x", 23)
	jumpCase{last, cards("ann o |"+off, "bob o |"+off), nil, "ann", 280}.check(t, v)
	jumpCase{last + " ann o", cards("ann o |"+off+" o", "bob o |"+off), nil, "bob", 280}.check(t, v)
	jumpCase{last + " ann o bob o ann o ann r", cards("ann o |"+off+" o", "bob o |"+off+" o"), []Refusal{{51, 2}, {52, 2}}, "", 0}.check(t, v)
	jumpCase{last + " ann x bob x ann o", cards("ann o |"+off+" x", "bob o |"+off+" x"), []Refusal{{51, 2}}, "", 0}.check(t, v)
}

func TestOthersOfHeights(t *testing.T) {
	v, l := exampleV(), jumps(bothAtOnce+"ann x bob x")
	first, _, _ := Jump(v, l)
	second, _, _ := Jump(v, l)
	first[0].Heights[0], first[0].Off[0], first[1].Athlete = "a", "b", "zoe"
	first[0].Heights = append(first[0].Heights, "c")
	first[0].Off = append(first[0].Off, "d")
	check(t, "another result", second, cards("ann o xxx | x", "bob o xxx | x"))
	check(t, "another card", first[1], card("zoe o xxx | x"))
	check(t, "the acts", l, jumps(bothAtOnce+"ann x bob x"))
	check(t, "the competition", v, exampleV())
}

// TestLongHeights goes through a competition with the most acts, athletes and heights.
func TestLongHeights(t *testing.T) {
	v := Vertical{Athletes: names(32), Heights: tens(24), Step: 10}
	var l []Act
	for len(l) < 32*24 {
		for _, who := range v.Athletes {
			l = append(l, Act{Athlete: who, Kind: "clear"})
		}
	}
	for len(l) < 1000 {
		l = append(l, Act{Athlete: v.Athletes[len(l)%32], Kind: "fail"})
	}
	got, aside, e := Jump(v, l)
	check(t, "all acts fit", aside, []Refusal{})
	check(t, "Jump", e, api.OK)
	check(t, "the last card", got[31], card("a31"+strings.Repeat(" o", 24)+" |"+strings.Repeat(" x", 7)))
	who, height, e := Due(v, l)
	check(t, "who is next", []any{who, height, e}, []any{"a8", 180, api.OK})
}
