package timetable

import (
	"fmt"
	"math"
	"math/rand"
	"slices"
	"testing"

	"stadion/api"
)

// without returns a list without the element at a place.
func without(l []int, place int) []int {
	return slices.Delete(slices.Clone(l), place, place+1)
}

// TestTableOrCore checks that a plan has a table or a core, and that nothing of a conflict can be left out.
func TestTableOrCore(t *testing.T) {
	found := map[api.Errno]int{}
	for what, p := range manyPlans(20, 1500, 6, 9, 9, 45) {
		_, e := First(p)
		core, errCore := Core(p)
		check(t, "a table or a core of "+what, errCore == api.OK, e == api.ErrInfeasible)
		found[e]++
		smallest, errSmallest := Smallest(p)
		if errCore == api.OK && errSmallest == api.OK && len(smallest) > len(core) {
			t.Errorf("%v is smaller than %v, of %s", core, smallest, what)
		}
		for _, l := range [][]int{core, smallest} {
			if len(l) > 0 {
				checkConflict(t, what, p, l)
			}
		}
	}
	if found[api.OK] < 300 || found[api.ErrInfeasible] < 300 {
		t.Errorf("the results are %v", found)
	}
}

func checkConflict(t *testing.T, what string, p Plan, l []int) {
	t.Helper()
	check(t, fmt.Sprint("the conflict ", l, " of ", what), CheckConflict(p, l), api.OK)
	for i := range l {
		want := api.ErrProof
		if len(l) == 1 {
			want = api.ErrEmpty
		}
		check(t, fmt.Sprint(l, " without the condition at ", i, " of ", what), CheckConflict(p, without(l, i)), want)
	}
}

// leastOf is the least end of a plan, or a great number.
func leastOf(p Plan) int {
	n, e := Least(p)
	if e != api.OK {
		return math.MaxInt
	}
	return n
}

// TestNothingEndsBeforeTheLeastEnd compares it with tables, with the load of each area, and with the chain.
func TestNothingEndsBeforeTheLeastEnd(t *testing.T) {
	r := rand.New(rand.NewSource(21))
	fulfilled := 0
	for what, p := range manyPlans(22, 3000, 5, 9, 5, 60) {
		least, e := Least(p)
		if e != api.OK {
			continue
		}
		for range 5 {
			table := repeated(len(p.Rounds), func(int) int { return r.Intn(55) })
			if _, e := CheckTable(p, table); e != api.OK {
				continue
			}
			fulfilled++
			if n, _ := End(p, table); n < least {
				t.Errorf("%v ends at %d, before %d, in %s", table, n, least, what)
			}
			checkRests(t, what, p, table)
		}
		fastest, _ := Fastest(p)
		checkRests(t, what, p, fastest)
		if n, e := Chain(p); e != api.OK || n > least {
			t.Errorf("the chain %d is longer than %d, of %s", n, least, what)
		}
		load, _ := Load(p)
		for _, use := range load {
			from := math.MaxInt
			for _, round := range p.Rounds {
				if slices.Contains(round.Areas, use.Name) {
					from = min(from, round.From)
				}
			}
			if from+use.Minutes > least {
				t.Errorf("%v from %d on does not end at %d, of %s", use, from, least, what)
			}
		}
	}
	if fulfilled < 300 {
		t.Errorf("%d tables fulfil all conditions", fulfilled)
	}
}

// checkRests checks that each athlete rests long enough by a table that fulfils all conditions.
func checkRests(t *testing.T, what string, p Plan, table []int) {
	t.Helper()
	for _, athlete := range []string{"v", "w"} {
		if n, e := Rest(p, table, athlete); e == api.OK && n < p.Rest {
			t.Errorf("%s rests %d minutes by %v, of %s", athlete, n, table, what)
		}
	}
}

// TestTablesAreWithinTheirWindows compares tables with the windows behind the orders.
func TestTablesAreWithinTheirWindows(t *testing.T) {
	for what, p := range manyPlans(23, 2000, 5, 9, 9, 60) {
		windows, errWindows := Windows(p)
		for _, f := range []func(p Plan) ([]int, api.Errno){First, Fastest} {
			table, e := f(p)
			if e != api.OK {
				continue
			}
			check(t, "the windows of "+what, errWindows, api.OK)
			for i, n := range table {
				if n < windows[i][0] || n > windows[i][1] {
					t.Errorf("%d is not from %d to %d, of %s", n, windows[i][0], windows[i][1], what)
				}
			}
		}
	}
}

// TestMoreNeverEndsEarlier makes rounds and rests longer.
func TestMoreNeverEndsEarlier(t *testing.T) {
	r := rand.New(rand.NewSource(24))
	later := 0
	for what, p := range manyPlans(25, 3000, 5, 9, 5, 90) {
		before := leastOf(p)
		chain, errChain := Chain(p)
		switch n := 1 + r.Intn(9); r.Intn(3) {
		case 0:
			p.Rest += n
		case 1:
			for i := range min(1, len(p.Orders)) {
				p.Orders[i].Rest += n
			}
		default:
			for i := range min(1, len(p.Rounds)) {
				p.Rounds[i].Minutes += n
			}
		}
		after := leastOf(p)
		if after < before {
			t.Errorf("the least end is %d, less than %d, of %s", after, before, what)
		}
		if after > before {
			later++
		}
		if n, e := Chain(p); e != errChain || n < chain {
			t.Errorf("the chain is %d, less than %d, of %s", n, chain, what)
		}
	}
	if later < 300 {
		t.Errorf("%d plans end later", later)
	}
}

// TestMovedTablesBreakWindowsAlone moves tables as a whole.
func TestMovedTablesBreakWindowsAlone(t *testing.T) {
	r := rand.New(rand.NewSource(26))
	moved := 0
	for what, p := range manyPlans(27, 2000, 5, 9, 5, 90) {
		table, e := Fastest(p)
		if e != api.OK || len(table) == 0 {
			continue
		}
		n := r.Intn(200) - slices.Min(table)
		for i := range table {
			table[i] += n
		}
		at, e := CheckTable(p, table)
		if e != api.OK && at >= len(p.Rounds) {
			t.Errorf("%v does not fulfil the condition %d of %s", table, at, what)
		}
		wide := p
		wide.Rounds = slices.Clone(p.Rounds)
		for i := range wide.Rounds {
			wide.Rounds[i].From, wide.Rounds[i].To = 0, 20000
		}
		_, e = CheckTable(wide, table)
		check(t, fmt.Sprint(table, " without the windows of ", what), e, api.OK)
		moved++
	}
	if moved < 500 {
		t.Errorf("%d tables are moved", moved)
	}
}

// TestSlackIsUsedUp begins a round as late as its slack permits, and a minute later.
func TestSlackIsUsedUp(t *testing.T) {
	for what, p := range manyPlans(28, 2000, 5, 9, 5, 60) {
		table, e := First(p)
		if e != api.OK {
			continue
		}
		slack, _ := Slack(p, table)
		for i, n := range slack {
			table[i] += n
			_, e := CheckTable(p, table)
			check(t, fmt.Sprint(table, " in ", what), e, api.OK)
			table[i]++
			_, e = CheckTable(p, table)
			check(t, fmt.Sprint(table, " in ", what), e, api.ErrConflict)
			table[i] -= n + 1
		}
	}
}
