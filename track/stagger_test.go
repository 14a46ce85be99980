package track

import (
	"math/big"
	"math/rand"
	"testing"

	"stadion/api"
)

func TestStagger(t *testing.T) {
	for _, x := range []struct {
		lane, bends int
		want        api.Span
	}{
		{1, 5, spanOf("0", "0")},
		{2, 0, spanOf("0", "0")},
		{2, 1, spanOf("186480/53", "3520")},
		{2, 2, spanOf("372960/53", "7040")},
		{3, 1, spanOf("389610/53", "51480/7")},
		{8, 16, spanOf("22484160/53", "2970880/7")},
	} {
		s, e := Stagger(oval(), x.lane, x.bends)
		check(t, "the stagger", s, x.want)
		check(t, "Stagger", e, api.OK)
	}
	s, e := Stagger(Oval{1, 1, 5, 5, 0, 2}, 2, 16)
	check(t, "the stagger of a lane that is as long", s, spanOf("0", "0"))
	check(t, "Stagger", e, api.OK)
}

func TestErrorsOfStagger(t *testing.T) {
	checkOfOval(t, "Stagger", func(o Oval) (any, api.Errno) { return Stagger(o, 0, -1) })
	checkRange(t, "a lane", 1, 8, api.ErrLane, func(n int) (any, api.Errno) { return Stagger(oval(), n, 1) })
	checkRange(t, "bends", 0, 16, api.ErrRange, func(n int) (any, api.Errno) { return Stagger(oval(), 2, n) })
	_, e := Stagger(oval(), 0, -1)
	check(t, "the lane ahead of the bends", e, api.ErrLane)
}

func TestMarked(t *testing.T) {
	for _, x := range []struct {
		what  string
		o     Oval
		bends int
		want  []int
	}{
		{"the example", oval(), 1, []int{0, 3518, 7351, 11183, 15016, 18849, 22681, 26514}},
		{"two bends", oval(), 2, []int{0, 7036, 14702, 22367, 30032, 37698, 45363, 53028}},
		{"no bends", oval(), 0, []int{0, 0, 0, 0, 0, 0, 0, 0}},
		{"one lane", Oval{1, 1, 1, 0, 0, 1}, 16, []int{0}},
		{"a whole lower end", Oval{5, 5, 106, 0, 0, 3}, 1, []int{0, 333, 666}},
		{"just below a whole number", Oval{5, 5, 7, 0, 0, 2}, 1, []int{0, 21}},
		{"lanes as long", Oval{5, 5, 7, 7, 0, 2}, 1, []int{0, 0}},
		{"the greatest oval", Oval{999999, 999999, 10000, 0, 10000, 10}, 16, []int{0, 1005283, 1507924, 2010566, 2513207, 3015849, 3518490, 4021132, 4523773, 5026415}},
	} {
		l, e := Marked(x.o, x.bends)
		check(t, x.what, l, x.want)
		check(t, x.what, e, api.OK)
	}
}

func TestErrorsOfMarked(t *testing.T) {
	checkOfOval(t, "Marked", func(o Oval) (any, api.Errno) { return Marked(o, -1) })
	checkRange(t, "bends", 0, 16, api.ErrRange, func(n int) (any, api.Errno) { return Marked(oval(), n) })
}

func TestErrors(t *testing.T) {
	for _, x := range []struct {
		what  string
		o     Oval
		bends int
		want  []api.Span
	}{
		{"no bends", Oval{5, 5, 106, 0, 0, 2}, 0, []api.Span{spanOf("0", "0"), spanOf("0", "0")}},
		{"a whole lower end", Oval{5, 5, 106, 0, 0, 2}, 1, []api.Span{spanOf("0", "0"), spanOf("0", "1/7")}},
		{"a whole upper end", Oval{5, 5, 7, 0, 0, 2}, 1, []api.Span{spanOf("0", "0"), spanOf("105/106", "1")}},
		{"three lanes", Oval{5, 5, 1, 0, 0, 3}, 3, []api.Span{spanOf("0", "0"), spanOf("45/106", "3/7"), spanOf("45/53", "6/7")}},
	} {
		l, e := Errors(x.o, x.bends)
		check(t, x.what, l, x.want)
		check(t, x.what, e, api.OK)
	}
}

func TestErrorsOfErrors(t *testing.T) {
	checkOfOval(t, "Errors", func(o Oval) (any, api.Errno) { return Errors(o, 17) })
	checkRange(t, "bends", 0, 16, api.ErrRange, func(n int) (any, api.Errno) { return Errors(oval(), n) })
}

// floorOf returns the integer part of a fraction.
func floorOf(x *big.Rat) int {
	return int(new(big.Int).Div(x.Num(), x.Denom()).Int64())
}

func TestRandomStaggers(t *testing.T) {
	r := rand.New(rand.NewSource(2))
	for range 1000 {
		o, bends := randomOval(r), r.Intn(17)
		var marked []int
		var errors []api.Span
		for lane := 1; lane <= o.Lanes; lane++ {
			longer := bends * (radiusOf(o, lane) - radiusOf(o, 1))
			s, e := Stagger(o, lane, bends)
			check(t, "the stagger", s, spanWithPi(0, longer))
			check(t, "Stagger", e, api.OK)
			floor := floorOf(withPi(0, longer, lowBound()))
			marked, errors = append(marked, floor), append(errors, spanWithPi(-floor, longer))
		}
		l, e := Marked(o, bends)
		check(t, "the marked staggers", l, marked)
		check(t, "Marked", e, api.OK)
		spans, e := Errors(o, bends)
		check(t, "their errors", spans, errors)
		check(t, "Errors", e, api.OK)
	}
}
