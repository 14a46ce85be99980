package timetable

import (
	"fmt"
	"math/rand"
	"slices"
	"testing"

	"stadion/api"
)

// heats are rounds of 10, 20, 30 .. minutes that ann needs, with bea in the first one only.
func heats(n int) Plan {
	p := Plan{Rounds: repeated(n, func(i int) Round {
		return Round{named(i), 10 * (i + 1), []string{"track"}, []string{"joe"}, []string{"ann"}, 0, 500}
	})}
	p.Rounds[0].Athletes = []string{"bea", "ann"}
	return p
}

func TestDays(t *testing.T) {
	for _, x := range []struct {
		what    string
		p       Plan
		table   []int
		athlete string
		day     []int
		rest    int
		e       api.Errno
		errRest api.Errno
	}{
		{"in their sequence", heats(3), []int{0, 50, 100}, "ann", []int{0, 1, 2}, 30, api.OK, api.OK},
		{"the other way round", heats(3), []int{100, 50, 0}, "ann", []int{2, 1, 0}, 20, api.OK, api.OK},
		{"the least rest is the last one", heats(3), []int{100, 0, 65}, "ann", []int{1, 2, 0}, 5, api.OK, api.OK},
		{"one ends as another one begins", heats(3), []int{0, 10, 90}, "ann", []int{0, 1, 2}, 0, api.OK, api.OK},
		{"rounds at once", heats(3), []int{40, 40, 40}, "ann", []int{0, 1, 2}, -20, api.OK, api.OK},
		{"two at once behind one", heats(3), []int{40, 40, 0}, "ann", []int{2, 0, 1}, -10, api.OK, api.OK},
		{"the next one alone counts", heats(3), []int{20, 25, 0}, "ann", []int{2, 0, 1}, -10, api.OK, api.OK},
		{"one round", heats(3), []int{0, 50, 100}, "bea", []int{0}, 0, api.OK, api.ErrNone},
		{"an official", heats(3), []int{0, 50, 100}, "joe", nil, 0, api.ErrUnknown, api.ErrUnknown},
		{"an area", heats(3), []int{0, 50, 100}, "track", nil, 0, api.ErrUnknown, api.ErrUnknown},
		{"a part of a name", heats(3), []int{0, 50, 100}, "an", nil, 0, api.ErrUnknown, api.ErrUnknown},
		{"no name", heats(3), []int{0, 50, 100}, "", nil, 0, api.ErrUnknown, api.ErrUnknown},
		{"nothing", Plan{}, nil, "ann", nil, 0, api.ErrUnknown, api.ErrUnknown},
		{"a table that does not fulfil the conditions", heats(2), []int{600, 999999999}, "ann", []int{0, 1}, 999999389, api.OK, api.OK},
		{"many at once", heats(24), repeated(24, func(i int) int { return 5 - i%2 }), "ann",
			[]int{1, 3, 5, 7, 9, 11, 13, 15, 17, 19, 21, 23, 0, 2, 4, 6, 8, 10, 12, 14, 16, 18, 20, 22}, -239, api.OK, api.OK},
	} {
		l, e := Day(x.p, x.table, x.athlete)
		checkBoth(t, x.what+", the day", l, e, x.day, x.e)
		n, e := Rest(x.p, x.table, x.athlete)
		checkBoth(t, x.what+", the rest", n, e, x.rest, x.errRest)
	}
}

func TestSlack(t *testing.T) {
	all := []string{"x"}
	pair := func(rest int) Plan {
		return Plan{Rest: rest, Rounds: []Round{{"a", 10, all, all, all, 0, 100}, {"b", 20, all, all, all, 0, 200}}}
	}
	for _, x := range []struct {
		what  string
		p     Plan
		table []int
		want  []int
		e     api.Errno
	}{
		{"nothing", Plan{}, nil, nil, api.OK},
		{"windows alone", line(20, 4, 5), []int{0, 15}, []int{16, 0}, api.OK},
		{"a table out of a window", line(20, 4, 5), []int{0, 16}, nil, api.ErrConflict},
		{"an order", with(line(100, 4, 5), Order{1, 0, 3}), []int{50, 10}, []int{46, 32}, api.OK},
		{"the longer one of two orders", with(line(100, 4, 5), Order{1, 0, 3}, Order{1, 0, 4}, Order{1, 0, 2}), []int{50, 10}, []int{46, 31}, api.OK},
		{"a table against an order", with(line(100, 4, 5), Order{1, 0, 3}), []int{10, 50}, nil, api.ErrConflict},
		{"everything shared, in its sequence", pair(7), []int{5, 40}, []int{18, 140}, api.OK},
		{"everything shared, the other way round", pair(7), []int{40, 5}, []int{50, 8}, api.OK},
		{"no rest", pair(0), []int{5, 40}, []int{25, 140}, api.OK},
		{"a round does not go past another one", pair(0), []int{5, 15}, []int{0, 165}, api.OK},
		{"rounds that overlap", pair(0), []int{5, 14}, nil, api.ErrConflict},
		{"rounds that share, in the middle", crowd(3, 5, 90), []int{60, 0, 30}, []int{20, 15, 15}, api.OK},
		{"the greatest numbers", sample(), []int{999999999, 999999999, 999999999}, nil, api.ErrConflict},
	} {
		l, e := Slack(x.p, x.table)
		checkBoth(t, x.what, l, e, x.want, x.e)
	}
}

func TestLoad(t *testing.T) {
	for _, x := range []struct {
		what string
		p    Plan
		want []Use
	}{
		{"nothing", Plan{}, nil},
		{"rounds without areas", line(3, 4, 5), nil},
		{"areas of several rounds", Plan{Rounds: []Round{
			{"a", 4, []string{"pit", "Track", "hall"}, []string{"joe"}, []string{"ann"}, 0, 3},
			{"b", 5, []string{"hall"}, nil, nil, 0, 3},
			{"c", 60, []string{"pit", "hall", "pi"}, nil, nil, 9, 9},
		}}, []Use{{"Track", 4}, {"hall", 69}, {"pi", 60}, {"pit", 64}}},
		{"the longest rounds", Plan{Rounds: repeated(24, func(i int) Round { return Round{named(i), 1440, []string{"x"}, nil, nil, 0, 0} })}, []Use{{"x", 34560}}},
		{"as many areas as there may be", Plan{Rounds: repeated(2, func(i int) Round {
			return Round{named(i), 1, repeated(160, func(j int) string { return fmt.Sprintf("x%d_%03d", i, j) }), nil, nil, 0, 0}
		})}, repeated(320, func(i int) Use { return Use{fmt.Sprintf("x%d_%03d", i/160, i%160), 1} })},
	} {
		l, e := Load(x.p)
		checkBoth(t, x.what, l, e, x.want, api.OK)
	}
}

// TestRandomSlack moves each round minute by minute.
func TestRandomSlack(t *testing.T) {
	r := rand.New(rand.NewSource(10))
	found := map[api.Errno]int{}
	for what, p := range manyPlans(11, 3000, 4, 9, 9, 80) {
		l := laws(p)
		table := repeated(len(p.Rounds), func(int) int { return r.Intn(75) })
		if first, e := First(p); e == api.OK && r.Intn(2) == 0 {
			table = first
		}
		wanted := api.OK
		if broken(p, l, table) < len(l) {
			wanted = api.ErrConflict
		}
		want := repeated(len(table), func(i int) int {
			moved := slices.Clone(table)
			for wanted == api.OK && broken(p, l, moved) == len(l) {
				moved[i]++
			}
			return moved[i] - table[i] - 1
		})
		got, e := Slack(p, table)
		checkBoth(t, fmt.Sprint("the slack of ", table, " in ", what), got, e, want, wanted)
		found[e]++
	}
	if found[api.OK] < 500 || found[api.ErrConflict] < 500 {
		t.Errorf("the results are %v", found)
	}
}

// TestRandomDays looks for the rounds of an athlete one after another.
func TestRandomDays(t *testing.T) {
	r := rand.New(rand.NewSource(12))
	found := map[api.Errno]int{}
	for what, p := range manyPlans(13, 3000, 6, 9, 9, 40) {
		table := repeated(len(p.Rounds), func(int) int { return r.Intn(40) })
		var want []int
		for minute := range 40 {
			for i, round := range p.Rounds {
				if table[i] == minute && slices.Contains(round.Athletes, "v") {
					want = append(want, i)
				}
			}
		}
		least, wanted := 1000, []api.Errno{api.OK, api.OK}
		for i := 1; i < len(want); i++ {
			least = min(least, table[want[i]]-table[want[i-1]]-p.Rounds[want[i-1]].Minutes)
		}
		switch len(want) {
		case 0:
			wanted = []api.Errno{api.ErrUnknown, api.ErrUnknown}
		case 1:
			wanted[1] = api.ErrNone
		}
		l, e := Day(p, table, "v")
		checkBoth(t, fmt.Sprint("the day of v by ", table, " in ", what), l, e, want, wanted[0])
		n, e := Rest(p, table, "v")
		checkBoth(t, fmt.Sprint("the rest of v by ", table, " in ", what), n, e, least, wanted[1])
		found[e]++
	}
	if found[api.OK] < 300 || found[api.ErrNone] < 300 || found[api.ErrUnknown] < 300 {
		t.Errorf("the results are %v", found)
	}
}
