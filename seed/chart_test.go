package seed

import (
	"testing"

	"stadion/api"
)

func TestChart(t *testing.T) {
	for _, x := range []struct {
		athletes, lanes int
		want            []Round
		numbers         []int
	}{
		{20, 8, []Round{{3, 5, 1}, {2, 4, 0}, {1, 0, 0}}, []int{20, 16, 8}},
		{0, 8, nil, nil},
		{1, 8, []Round{{1, 0, 0}}, []int{1}},
		{8, 8, []Round{{1, 0, 0}}, []int{8}},
		{9, 8, []Round{{2, 4, 0}, {1, 0, 0}}, []int{9, 8}},
		{16, 8, []Round{{2, 4, 0}, {1, 0, 0}}, []int{16, 8}},
		{17, 8, []Round{{3, 5, 1}, {2, 4, 0}, {1, 0, 0}}, []int{17, 16, 8}},
		{32, 8, []Round{{4, 4, 0}, {2, 4, 0}, {1, 0, 0}}, []int{32, 16, 8}},
		{33, 8, []Round{{5, 4, 4}, {3, 5, 1}, {2, 4, 0}, {1, 0, 0}}, []int{33, 24, 16, 8}},
		{160, 10, []Round{{16, 5, 0}, {8, 5, 0}, {4, 5, 0}, {2, 5, 0}, {1, 0, 0}}, []int{160, 80, 40, 20, 10}},
		{151, 10, []Round{{16, 5, 0}, {8, 5, 0}, {4, 5, 0}, {2, 5, 0}, {1, 0, 0}}, []int{151, 80, 40, 20, 10}},
		{16, 1, []Round{{16, 0, 8}, {8, 0, 4}, {4, 0, 2}, {2, 0, 1}, {1, 0, 0}}, []int{16, 8, 4, 2, 1}},
		{3, 1, []Round{{3, 0, 2}, {2, 0, 1}, {1, 0, 0}}, []int{3, 2, 1}},
		{45, 9, []Round{{5, 5, 2}, {3, 6, 0}, {2, 4, 1}, {1, 0, 0}}, []int{45, 27, 18, 9}},
	} {
		l, e := Chart(x.athletes, x.lanes)
		check(t, "Chart", l, x.want)
		check(t, "Chart", e, api.OK)
		if x.athletes > 0 {
			numbers, e := Numbers(x.athletes, x.lanes, l)
			check(t, "Numbers", numbers, x.numbers)
			check(t, "Numbers", e, api.OK)
		}
	}
}

func TestErrorsOfChart(t *testing.T) {
	for _, x := range around(0, 160) {
		l, e := Chart(x.n, 10)
		check(t, "athletes", e, x.want)
		if e != api.OK {
			checkNothing(t, "Chart", l)
		}
	}
	for _, x := range around(1, 10) {
		l, e := Chart(16, x.n)
		check(t, "lanes", e, x.want)
		if e != api.OK {
			checkNothing(t, "Chart", l)
		}
	}
	for lanes := 1; lanes <= 9; lanes++ {
		_, e := Chart(16*lanes, lanes)
		check(t, "16 heats", e, api.OK)
		l, e := Chart(16*lanes+1, lanes)
		check(t, "17 heats", e, api.ErrMany)
		checkNothing(t, "Chart", l)
	}
	_, e := Chart(0, 11)
	check(t, "lanes of nobody", e, api.ErrRange)
}

func TestNumbers(t *testing.T) {
	sixteen := append(repeated(Round{1, 8, 0}, 15), Round{1, 0, 0})
	for _, x := range []struct {
		what            string
		athletes, lanes int
		l               []Round
		want            []int
	}{
		{"some are not to advance", 20, 8, []Round{{3, 2, 2}, {1, 0, 0}}, []int{20, 8}},
		{"more heats than needed", 20, 8, []Round{{16, 1, 4}, {5, 1, 3}, {1, 0, 0}}, []int{20, 20, 8}},
		{"nobody", 0, 8, []Round{{1, 0, 0}}, []int{0}},
		{"nobody, in two rounds", 0, 8, []Round{{2, 0, 0}, {1, 0, 0}}, []int{0, 0}},
		{"nobody advances", 20, 8, []Round{{3, 0, 0}, {1, 0, 0}}, []int{20, 0}},
		{"all advance", 8, 8, []Round{{2, 4, 0}, {1, 0, 0}}, []int{8, 8}},
		{"all advance by time", 160, 10, []Round{{16, 0, 160}, {16, 0, 10}, {1, 0, 0}}, []int{160, 160, 10}},
		{"all advance by place", 160, 10, []Round{{16, 10, 0}, {16, 0, 10}, {1, 0, 0}}, []int{160, 160, 10}},
		{"a place in each heat", 5, 8, []Round{{3, 1, 1}, {1, 0, 0}}, []int{5, 4}},
		{"16 rounds", 8, 8, sixteen, []int{8, 8, 8, 8, 8, 8, 8, 8, 8, 8, 8, 8, 8, 8, 8, 8}},
	} {
		numbers, e := Numbers(x.athletes, x.lanes, x.l)
		check(t, x.what, numbers, x.want)
		check(t, x.what, e, api.OK)
	}
}

// repeated returns a list of as many equal elements.
func repeated[T any](x T, n int) []T {
	l := make([]T, n)
	for i := range l {
		l[i] = x
	}
	return l
}

func TestErrorsOfNumbers(t *testing.T) {
	last := Round{1, 0, 0}
	for _, x := range []struct {
		what            string
		athletes, lanes int
		l               []Round
		want            api.Errno
	}{
		{"no rounds", 20, 8, nil, api.ErrEmpty},
		{"17 rounds", 8, 8, append(repeated(Round{1, 8, 0}, 16), last), api.ErrMany},
		{"17 wrong rounds", 8, 8, make([]Round, 17), api.ErrMany},
		{"no heats", 20, 8, []Round{{0, 0, 0}, last}, api.ErrRange},
		{"heats below 0", 20, 8, []Round{{-1, 0, 0}, last}, api.ErrRange},
		{"16 heats", 20, 8, []Round{{16, 0, 8}, last}, api.OK},
		{"17 heats", 20, 8, []Round{{17, 0, 8}, last}, api.ErrRange},
		{"far too many heats", 20, 8, []Round{{1<<63 - 1, 0, 8}, last}, api.ErrRange},
		{"a place below 0", 20, 8, []Round{{3, -1, 8}, last}, api.ErrRange},
		{"the place 10", 20, 10, []Round{{2, 10, 0}, {2, 0, 1}, last}, api.OK},
		{"the place 11", 22, 10, []Round{{3, 11, 0}, last}, api.ErrRange},
		{"a time below 0", 20, 8, []Round{{3, 2, -1}, last}, api.ErrRange},
		{"the time 160", 160, 10, []Round{{16, 0, 160}, {16, 0, 1}, last}, api.OK},
		{"the time 161", 160, 10, []Round{{16, 0, 161}, {16, 0, 1}, last}, api.ErrRange},
		{"too few lanes", 20, 8, []Round{{2, 4, 0}, last}, api.ErrLane},
		{"just as many lanes", 16, 8, []Round{{2, 4, 0}, last}, api.OK},
		{"too few lanes of the last round", 20, 8, []Round{{3, 3, 0}, last}, api.ErrLane},
		{"too few lanes of the only round", 9, 8, []Round{last}, api.ErrLane},
		{"more than there are", 20, 8, []Round{{3, 2, 15}, {3, 2, 2}, last}, api.ErrInfeasible},
		{"as many as there are", 20, 8, []Round{{3, 2, 14}, {3, 2, 2}, last}, api.OK},
		{"more than the least heat has", 20, 8, []Round{{3, 7, 0}, last}, api.ErrInfeasible},
		{"a place of nobody", 0, 8, []Round{{1, 1, 0}, last}, api.ErrInfeasible},
		{"a time of nobody", 0, 8, []Round{{1, 0, 1}, last}, api.ErrInfeasible},
		{"a place of an empty heat", 2, 8, []Round{{3, 1, 0}, last}, api.ErrInfeasible},
		{"two heats at the end", 20, 8, []Round{{3, 2, 2}, {2, 0, 0}}, api.ErrForm},
		{"a place at the end", 20, 8, []Round{{3, 2, 2}, {1, 1, 0}}, api.ErrForm},
		{"a time at the end", 20, 8, []Round{{3, 2, 2}, {1, 0, 1}}, api.ErrForm},
		{"more than there are at the end", 20, 8, []Round{{3, 2, 2}, {1, 9, 9}}, api.ErrForm},
		{"no last round", 20, 8, []Round{{3, 5, 1}}, api.ErrForm},
		{"a last round too early", 8, 8, []Round{last, last}, api.OK},
	} {
		numbers, e := Numbers(x.athletes, x.lanes, x.l)
		check(t, x.what, e, x.want)
		if e != api.OK {
			checkNothing(t, x.what, numbers)
		}
	}
	for _, x := range around(0, 160) {
		_, e := Numbers(x.n, 10, []Round{{16, 0, 0}, last})
		check(t, "athletes", e, x.want)
	}
	for _, x := range around(1, 10) {
		_, e := Numbers(1, x.n, []Round{last})
		check(t, "lanes", e, x.want)
	}
}

func TestErrorsOfNumbersInOrder(t *testing.T) {
	type arguments struct {
		athletes, lanes int
		l               []Round
	}
	climb(t, "Numbers", arguments{-1, 0, nil},
		func(x arguments) api.Errno {
			_, e := Numbers(x.athletes, x.lanes, x.l)
			return e
		},
		rung[arguments]{api.ErrRange, func(x *arguments) { x.athletes = 20 }},
		rung[arguments]{api.ErrRange, func(x *arguments) { x.lanes = 8 }},
		rung[arguments]{api.ErrEmpty, func(x *arguments) { x.l = make([]Round, 17) }},
		rung[arguments]{api.ErrMany, func(x *arguments) { x.l = []Round{{2, 11, 161}, {2, 11, 161}} }},
		rung[arguments]{api.ErrRange, func(x *arguments) { x.l[0].Place = 10 }},
		rung[arguments]{api.ErrRange, func(x *arguments) { x.l[0].Time = 160 }},
		rung[arguments]{api.ErrLane, func(x *arguments) { x.l[0].Heats = 3 }},
		rung[arguments]{api.ErrInfeasible, func(x *arguments) { x.l[0].Time = 0 }},
		rung[arguments]{api.ErrInfeasible, func(x *arguments) { x.l[0].Place = 6 }},
		rung[arguments]{api.ErrRange, func(x *arguments) { x.l[1].Place = 10 }},
		rung[arguments]{api.ErrRange, func(x *arguments) { x.l[1].Time = 160 }},
		rung[arguments]{api.ErrLane, func(x *arguments) { x.l[0].Place = 5 }},
		rung[arguments]{api.ErrForm, func(x *arguments) { x.l[1].Place = 0 }},
		rung[arguments]{api.ErrForm, func(x *arguments) { x.l[1].Time = 0 }},
		rung[arguments]{api.ErrForm, func(x *arguments) { x.l[0].Place, x.l[1].Heats = 2, 1 }},
	)
}
