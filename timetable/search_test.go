package timetable

import (
	"fmt"
	"testing"

	"stadion/api"
)

// crowd is a plan of n rounds of 10 minutes that one athlete needs.
func crowd(n, rest, to int) Plan {
	return Plan{Rest: rest, Rounds: repeated(n, func(i int) Round {
		return Round{named(i), 10, nil, nil, []string{"ann"}, 0, to}
	})}
}

func TestTables(t *testing.T) {
	two := func(a, b Round) Plan { return Plan{Rounds: []Round{a, b}} }
	for _, x := range []struct {
		what  string
		p     Plan
		first []int
		least int
		e     api.Errno
	}{
		{"nothing", Plan{}, nil, 0, api.OK},
		{"a round alone", line(9, 4), []int{0}, 4, api.OK},
		{"a window that is too short", line(3, 4), nil, 0, api.ErrInfeasible},
		{"a late window", Plan{Rounds: []Round{{"a", 4, nil, nil, nil, 5, 9}}}, []int{5}, 9, api.OK},
		{"rounds that share nothing", line(9, 4, 5), []int{0, 0}, 5, api.OK},
		{"an area", two(Round{"a", 5, []string{"x"}, nil, nil, 0, 9}, Round{"b", 4, []string{"x"}, nil, nil, 0, 9}), []int{0, 5}, 9, api.OK},
		{"an area for too short a time", two(Round{"a", 5, []string{"x"}, nil, nil, 0, 8}, Round{"b", 4, []string{"x"}, nil, nil, 0, 8}), nil, 0, api.ErrInfeasible},
		{"an area, the other way round", two(Round{"a", 5, []string{"x"}, nil, nil, 0, 9}, Round{"b", 4, []string{"x"}, nil, nil, 0, 8}), []int{4, 0}, 9, api.OK},
		{"the first table is not the fastest one", two(Round{"a", 5, []string{"x"}, nil, nil, 2, 30}, Round{"b", 2, []string{"x"}, nil, nil, 0, 30}), []int{2, 0}, 7, api.OK},
		{"a table that is fast, but not the first one", two(Round{"a", 5, []string{"x"}, nil, nil, 1, 30}, Round{"b", 2, []string{"x"}, nil, nil, 0, 30}), []int{1, 6}, 7, api.OK},
		{"an order against the sequence", with(line(30, 4, 5), Order{1, 0, 3}), []int{8, 0}, 12, api.OK},
		{"orders in a circle", with(line(30, 4, 5), Order{1, 0, 3}, Order{0, 1, 3}), nil, 0, api.ErrInfeasible},
		{"an order that decides on an area", with(Plan{Rounds: crowd(2, 0, 30).Rounds}, Order{1, 0, 0}), []int{10, 0}, 20, api.OK},
		{"a rest that is longer than that of an order", with(crowd(2, 7, 30), Order{1, 0, 3}), []int{17, 0}, 27, api.OK},
		{"8 rounds", crowd(8, 5, 115), []int{0, 15, 30, 45, 60, 75, 90, 105}, 115, api.OK},
		{"8 rounds for too short a time", crowd(8, 5, 114), nil, 0, api.ErrInfeasible},
		{"8 rounds, turned round by orders", with(crowd(8, 0, 80), repeated(7, func(i int) Order { return Order{i + 1, i, 0} })...), []int{70, 60, 50, 40, 30, 20, 10, 0}, 80, api.OK},
		{"9 rounds", crowd(9, 0, 20000), nil, 0, api.ErrLimit},
		{"9 rounds without a table", line(3, 4, 4, 4, 4, 4, 4, 4, 4, 4), nil, 0, api.ErrLimit},
	} {
		l, e := First(x.p)
		checkBoth(t, x.what+", the first table", l, e, x.first, x.e)
		n, e := Least(x.p)
		checkBoth(t, x.what+", the least end", n, e, x.least, x.e)
		checkFastest(t, x.what, x.p, x.least, x.e)
	}
}

// TestTheFirstTableIsNotTheFastest has a table that is lexicographically first because of a long wait.
func TestTheFirstTableIsNotTheFastest(t *testing.T) {
	p := Plan{Rounds: []Round{{"a", 9, []string{"x"}, nil, nil, 0, 50}, {"b", 2, []string{"x"}, nil, nil, 0, 50}, {"c", 20, nil, nil, nil, 0, 50}}, Orders: []Order{{1, 2, 0}}}
	l, e := First(p)
	checkBoth(t, "the first table", l, e, []int{0, 9, 11}, api.OK)
	n, e := Least(p)
	checkBoth(t, "the least end", n, e, 22, api.OK)
	checkFastest(t, "the fastest table", p, 22, api.OK)
}

// checkFastest checks that the fastest table fulfils all conditions, and has the least end.
func checkFastest(t *testing.T, what string, p Plan, least int, wanted api.Errno) {
	t.Helper()
	x, e := Fastest(p)
	check(t, what+", the error of the fastest table", e, wanted)
	if e != api.OK {
		checkNothing(t, what, x)
		return
	}
	l := laws(p)
	if len(x) != len(p.Rounds) || broken(p, l, x) < len(l) {
		t.Errorf("%s: %v does not fulfil all conditions", what, x)
		return
	}
	for _, n := range x {
		if n < 0 {
			t.Errorf("%s: %v begins too early", what, x)
		}
	}
	check(t, what+", the end of the fastest table", endOf(p, x), least)
}

// TestRandomTables compares tables with the best ones of all sequences.
func TestRandomTables(t *testing.T) {
	found := map[api.Errno]int{}
	for what, p := range manyPlans(5, 3000, 6, 9, 9, 50) {
		all := candidates(p, laws(p))
		var want []int
		least, wanted := 0, api.ErrInfeasible
		for _, x := range all {
			if wanted != api.OK || isLess(x, want) {
				want = x
			}
			if n := endOf(p, x); wanted != api.OK || n < least {
				least = n
			}
			wanted = api.OK
		}
		l, e := First(p)
		checkBoth(t, "the first table of "+what, l, e, want, wanted)
		n, e := Least(p)
		checkBoth(t, "the least end of "+what, n, e, least, wanted)
		checkFastest(t, "of "+what, p, least, wanted)
		found[e]++
	}
	if found[api.OK] < 500 || found[api.ErrInfeasible] < 500 {
		t.Errorf("the results are %v", found)
	}
}

// isLess reports whether a list of the same length is lexicographically before another one.
func isLess(a, b []int) bool {
	for i := range a {
		if a[i] != b[i] {
			return a[i] < b[i]
		}
	}
	return false
}

// TestRandomTablesOfEight has the greatest plans for an exact search.
func TestRandomTablesOfEight(t *testing.T) {
	for what, p := range manyPlans(6, 60, 8, 30, 30, 200) {
		if len(p.Rounds) < 7 {
			continue
		}
		all := candidates(p, laws(p))
		l, e := First(p)
		if len(all) == 0 {
			checkBoth(t, what, l, e, nil, api.ErrInfeasible)
			continue
		}
		want, least := all[0], endOf(p, all[0])
		for _, x := range all {
			if isLess(x, want) {
				want = x
			}
			least = min(least, endOf(p, x))
		}
		checkBoth(t, "the first table of "+what, l, e, want, api.OK)
		checkFastest(t, fmt.Sprint("of ", what), p, least, api.OK)
	}
}
