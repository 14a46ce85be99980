package timetable

import (
	"fmt"
	"math"
	"math/rand"
	"slices"
	"testing"

	"stadion/api"
)

func TestConflicts(t *testing.T) {
	shortWindows := sample(func(p *Plan) { p.Rounds[2].To, p.Rounds[1].To = 54, 19 })
	// The windows 1 and 2 each contradict the order in front of them.
	twice := with(line(20, 6, 6, 6), Order{0, 1, 9}, Order{1, 2, 9})
	pair := func(a, b int) Plan {
		return Plan{Rounds: []Round{{"a", 10, []string{"x"}, []string{"y"}, nil, 0, a}, {"b", 10, []string{"x"}, []string{"y"}, nil, 0, b}}}
	}
	for _, x := range []struct {
		what     string
		p        Plan
		core     []int
		smallest []int
		e        api.Errno
	}{
		{"nothing", Plan{}, nil, nil, api.ErrNone},
		{"P", sample(), nil, nil, api.ErrNone},
		{"a window that is too short", line(3, 4), []int{0}, []int{0}, api.OK},
		{"the first one of two windows", line(3, 4, 4), []int{0}, []int{0}, api.OK},
		{"the second window", line(4, 4, 5, 6), []int{1}, []int{1}, api.OK},
		{"a window beside a conflict", shortWindows, []int{1}, []int{1}, api.OK},
		{"the heats longer than their window", sample(func(p *Plan) { p.Rounds[0].To, p.Rounds[2].To = 20, 20 }), []int{0}, []int{0}, api.OK},
		{"an order and a window", with(line(20, 15, 6), Order{0, 1, 0}), []int{1, 2}, []int{1, 2}, api.OK},
		{"an order that is there twice", with(line(20, 15, 6), Order{0, 1, 0}, Order{0, 1, 0}), []int{1, 2}, []int{1, 2}, api.OK},
		{"the longer one of two orders", with(line(20, 5, 6), Order{0, 1, 0}, Order{0, 1, 10}), []int{1, 3}, []int{1, 3}, api.OK},
		{"orders one behind another", twice, []int{1, 3}, []int{1, 3}, api.OK},
		{"orders that need each other", with(line(24, 6, 6, 6), Order{0, 1, 4}, Order{1, 2, 4}), []int{2, 3, 4}, []int{2, 3, 4}, api.OK},
		{"a circle", with(line(90, 6, 6, 6), ring(3)...), []int{3, 4, 5}, []int{3, 4, 5}, api.OK},
		{"a circle within a circle", with(line(90, 6, 6, 6), append(ring(3), Order{1, 0, 0})...), []int{3, 4, 5}, []int{3, 6}, api.OK},
		{"the area, not the official", pair(19, 19), []int{0, 1, 2}, []int{0, 1, 2}, api.OK},
		{"an order, not the athlete", with(Plan{Rest: 4, Rounds: []Round{{"a", 10, nil, nil, []string{"ann"}, 0, 23}, {"b", 10, nil, nil, []string{"ann"}, 0, 23}}}, Order{0, 1, 4}), []int{1, 2}, []int{1, 2}, api.OK},
		{"three that are too many", crowd(3, 0, 29), []int{0, 1, 2, 3, 4, 5}, []int{0, 1, 2, 3, 4, 5}, api.OK},
	} {
		l, e := Core(x.p)
		checkBoth(t, x.what+", the core", l, e, x.core, x.e)
		l, e = Smallest(x.p)
		checkBoth(t, x.what+", the smallest conflict", l, e, x.smallest, x.e)
	}
}

func TestLimitsOfConflicts(t *testing.T) {
	// 4 rounds have 4 windows and 6 pairs
	for _, x := range []struct {
		what           string
		p              Plan
		core, smallest api.Errno
	}{
		{"8 rounds, 36 conditions", crowd(8, 0, 80), api.ErrNone, api.ErrLimit},
		{"8 rounds, 36 conditions, no table", crowd(8, 0, 79), api.OK, api.ErrLimit},
		{"9 rounds, 9 conditions", line(9, 1, 1, 1, 1, 1, 1, 1, 1, 1), api.ErrLimit, api.ErrLimit},
		{"9 rounds, 9 conditions, no table", line(9, 10, 1, 1, 1, 1, 1, 1, 1, 1), api.ErrLimit, api.ErrLimit},
		{"12 conditions", with(crowd(4, 0, 40), Order{0, 1, 0}, Order{1, 2, 0}), api.ErrNone, api.ErrNone},
		{"12 conditions, no table", with(crowd(4, 0, 39), Order{0, 1, 0}, Order{1, 2, 0}), api.OK, api.OK},
		{"13 conditions", with(crowd(4, 0, 40), Order{0, 1, 0}, Order{1, 2, 0}, Order{0, 2, 0}), api.ErrNone, api.ErrLimit},
		{"13 conditions, no table", with(crowd(4, 0, 39), Order{0, 1, 0}, Order{1, 2, 0}, Order{0, 2, 0}), api.OK, api.ErrLimit},
	} {
		l, e := Core(x.p)
		check(t, x.what+", the core", e, x.core)
		if e != api.OK {
			checkNothing(t, x.what, l)
		}
		l, e = Smallest(x.p)
		check(t, x.what+", the smallest conflict", e, x.smallest)
		if e != api.OK {
			checkNothing(t, x.what, l)
		}
		wanted := api.ErrProof
		if x.core == api.ErrLimit {
			wanted = api.ErrLimit
		}
		check(t, x.what+", a conflict", CheckConflict(x.p, []int{1}), wanted)
		if x.core == api.ErrLimit {
			check(t, x.what+", an empty conflict", CheckConflict(x.p, nil), wanted)
		}
	}
}

func TestCheckConflict(t *testing.T) {
	for _, x := range []struct {
		what string
		p    Plan
		l    []int
		want api.Errno
	}{
		{"the core", sample(narrow), []int{0, 1, 4}, api.OK},
		{"more than the core", sample(narrow), []int{0, 1, 2, 4}, api.OK},
		{"all conditions", sample(narrow), []int{0, 1, 2, 3, 4, 5, 6}, api.OK},
		{"all but one of the core", sample(narrow), []int{0, 2, 3, 4, 5, 6}, api.ErrProof},
		{"one condition", sample(narrow), []int{4}, api.ErrProof},
		{"conditions with a table", sample(), []int{0, 1, 2, 3, 4, 5, 6}, api.ErrProof},
		{"none", sample(narrow), nil, api.ErrEmpty},
		{"none of nothing", Plan{}, nil, api.ErrEmpty},
		{"the first one of nothing", Plan{}, []int{0}, api.ErrUnknown},
		{"the number below 0", sample(narrow), []int{-1, 0, 1, 4}, api.ErrUnknown},
		{"the least number", sample(narrow), []int{math.MinInt}, api.ErrUnknown},
		{"the number behind the last one", sample(narrow), []int{0, 1, 4, 7}, api.ErrUnknown},
		{"the greatest number", sample(narrow), []int{0, 1, 4, math.MaxInt}, api.ErrUnknown},
		{"a number below the one before", sample(narrow), []int{1, 0, 4}, api.ErrOrder},
		{"a number twice", sample(narrow), []int{0, 1, 1, 4}, api.ErrOrder},
		{"the first number with an error is unknown", sample(narrow), []int{7, 7, 1}, api.ErrUnknown},
		{"the first number with an error is too low", sample(narrow), []int{3, 3, 7}, api.ErrOrder},
		{"a number with two errors", sample(narrow), []int{3, -1}, api.ErrUnknown},
		{"a window without the others", sample(func(p *Plan) { p.Rounds[2].From = 95 }), []int{2}, api.OK},
		// Without their windows, rounds still do not begin below 0.
		{"an order before a window", with(line(20, 15, 6), Order{0, 1, 0}), []int{1, 2}, api.OK},
		{"an order behind a window", with(line(20, 15, 6), Order{0, 1, 0}), []int{0, 2}, api.ErrProof},
		{"orders without windows", with(line(0, 1440, 1440, 1440), Order{0, 1, 1440}, Order{1, 2, 1440}), []int{3, 4}, api.ErrProof},
		{"a circle without windows", with(line(90, 6, 6, 6), ring(3)...), []int{3, 4, 5}, api.OK},
		{"a part of a circle", with(line(90, 6, 6, 6), ring(3)...), []int{0, 1, 2, 3, 5}, api.ErrProof},
	} {
		check(t, x.what, CheckConflict(x.p, x.l), x.want)
	}
}

// contradicted reports whether no table fulfils some conditions.
func contradicted(p Plan, l []law) bool { return len(candidates(p, l)) == 0 }

// selections are all ascending lists of k of the numbers from a first one on and below n, in lexicographic order.
func selections(from, n, k int) [][]int {
	if k == 0 {
		return [][]int{nil}
	}
	var all [][]int
	for i := from; i < n; i++ {
		for _, l := range selections(i+1, n, k-1) {
			all = append(all, append([]int{i}, l...))
		}
	}
	return all
}

// smallestOf returns the first selection that contradicts itself.
func smallestOf(p Plan, l []law) []int {
	for k := range len(l) + 1 {
		for _, s := range selections(0, len(l), k) {
			if contradicted(p, subset(l, s)) {
				return s
			}
		}
	}
	return nil
}

// coreOf leaves out conditions from the last one to the first one.
func coreOf(p Plan, l []law) []int {
	left := repeated(len(l), func(i int) int { return i })
	for i := len(l) - 1; i >= 0; i-- {
		var others []int
		for _, n := range left {
			if n != i {
				others = append(others, n)
			}
		}
		if contradicted(p, subset(l, others)) {
			left = others
		}
	}
	return left
}

// TestRandomConflicts compares conflicts with what the definitions give.
func TestRandomConflicts(t *testing.T) {
	sizes, differ := map[int]int{}, 0
	for what, p := range manyPlans(7, 2500, 4, 9, 9, 40) {
		l := laws(p)
		wanted := api.OK
		if !contradicted(p, l) {
			wanted = api.ErrNone
		}
		core, e := Core(p)
		if wanted == api.OK {
			checkBoth(t, "the core of "+what, core, e, coreOf(p, l), wanted)
		} else {
			checkBoth(t, "the core of "+what, core, e, nil, wanted)
		}
		smallest, e := Smallest(p)
		switch {
		case len(l) > 12:
			checkBoth(t, "the smallest conflict of "+what, smallest, e, nil, api.ErrLimit)
		case wanted == api.OK:
			checkBoth(t, "the smallest conflict of "+what, smallest, e, smallestOf(p, l), wanted)
			sizes[len(smallest)]++
			if !slices.Equal(core, smallest) {
				differ++
			}
		default:
			checkBoth(t, "the smallest conflict of "+what, smallest, e, nil, wanted)
		}
	}
	if differ < 10 || sizes[1] < 10 || sizes[2] < 10 || sizes[3] < 10 {
		t.Errorf("the smallest conflicts have the sizes %v, %d are not the core", sizes, differ)
	}
}

// TestRandomSelections asks for any conditions whether they contradict each other.
func TestRandomSelections(t *testing.T) {
	r := rand.New(rand.NewSource(8))
	found := map[api.Errno]int{}
	for what, p := range manyPlans(9, 4000, 5, 9, 9, 30) {
		l := laws(p)
		var some []int
		for i := range l {
			if r.Intn(4) > 0 {
				some = append(some, i)
			}
		}
		want := api.ErrProof
		if len(some) == 0 {
			want = api.ErrEmpty
		} else if contradicted(p, subset(l, some)) {
			want = api.OK
		}
		e := CheckConflict(p, some)
		check(t, fmt.Sprint(some, " of ", what), e, want)
		found[e]++
	}
	if found[api.OK] < 500 || found[api.ErrProof] < 500 {
		t.Errorf("the results are %v", found)
	}
}
