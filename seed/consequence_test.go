package seed

import (
	"math/rand"
	"slices"
	"testing"

	"stadion/api"
)

// TestZigzagIsRanked goes through all sizes: the heats are ranked, differ by at most one, and those with as many athletes, an even number, have the same sum of ranks.
func TestZigzagIsRanked(t *testing.T) {
	for n := 0; n <= 160; n++ {
		for heats := 1; heats <= 16; heats++ {
			l, e := Zigzag(n, heats)
			check(t, "Zigzag", e, api.OK)
			check(t, "the number of heats", len(l), heats)
			check(t, "the ranks", slices.Sorted(slices.Values(slices.Concat(l...))), numbers(n))
			sums := map[int]int{}
			for _, heat := range l {
				if len(heat) != n/heats && len(heat) != n/heats+1 {
					t.Fatalf("%d ranks in %d heats: a heat of %d", n, heats, len(heat))
				}
				sum := 0
				for i, rank := range heat {
					check(t, "the group", rank/heats, i)
					sum += rank
				}
				if before, found := sums[len(heat)]; found && len(heat)%2 == 0 {
					check(t, "the sum", sum, before)
				}
				sums[len(heat)] = sum
			}
		}
	}
}

// leastOfAll returns the least number of clashes of all heats whose sizes differ by at most one, and of those that are ranked by an order, by trying all of them.
func leastOfAll(l []Entrant, order []int, heats int) (least, ranked int) {
	least, ranked = 1000, 1000
	heatOf := make([]int, len(l))
	size := make([]int, heats)
	var try func(i, clashes int)
	try = func(i, clashes int) {
		if i == len(l) {
			if slices.Max(size)-slices.Min(size) <= 1 {
				least = min(least, clashes)
				if hasRanks(order, heatOf, heats) {
					ranked = min(ranked, clashes)
				}
			}
			return
		}
		for heat := range heats {
			more := 0
			for other := range i {
				if heatOf[other] == heat && l[other].Club == l[i].Club {
					more++
				}
			}
			heatOf[i] = heat
			size[heat]++
			try(i+1, clashes+more)
			size[heat]--
		}
	}
	try(0, 0)
	return least, ranked
}

// hasRanks reports whether the heats of the entrants are ranked by an order.
func hasRanks(order, heatOf []int, heats int) bool {
	for i := range order {
		for j := range i {
			if i/heats == j/heats && heatOf[order[i]] == heatOf[order[j]] {
				return false
			}
		}
	}
	return true
}

// randomEntrants returns entrants of some clubs, with some equal marks and some without a mark.
func randomEntrants(r *rand.Rand, n, clubs int) []Entrant {
	l := field(n, 1)
	kind := []string{"time", "length", "points"}[r.Intn(3)]
	for i := range l {
		l[i].Club = numbered(clubs)[r.Intn(clubs)]
		l[i].Mark = api.Mark{Kind: kind, Value: 1 + r.Intn(2*n)}
		if r.Intn(6) == 0 {
			l[i].Mark = noMark("DNS")
		}
	}
	return l
}

func TestLeastOfAll(t *testing.T) {
	r := rand.New(rand.NewSource(1))
	for range 300 {
		l := randomEntrants(r, r.Intn(8), 1+r.Intn(4))
		heats, key := 1+r.Intn(4), 1+r.Intn(1000)
		order, _ := Order(l, key)
		least, ranked := leastOfAll(l, order, heats)
		n, e := Least(l, heats)
		check(t, "Least", e, api.OK)
		check(t, "the least number of all heats", n, least)
		check(t, "the least number of ranked heats", n, ranked)
	}
}

// before reports whether an entrant comes before another one in the order, as the chapter says it.
func before(l []Entrant, drawn []int, a, b int) bool {
	x, y := l[a].Mark, l[b].Mark
	switch {
	case x.Kind == "none" && y.Kind == "none" || x == y:
		return slices.Index(drawn, a) < slices.Index(drawn, b)
	case x.Kind == "none" || y.Kind == "none":
		return y.Kind == "none"
	case x.Kind == "time":
		return x.Value < y.Value
	}
	return x.Value > y.Value
}

// draw draws as chapter 1 says it.
func draw(key, n int) []int {
	l := numbers(n)
	for i := n - 1; i > 0; i-- {
		key = key * 69621 % 2147483647
		j := key % (i + 1)
		l[i], l[j] = l[j], l[i]
	}
	return l
}

func TestRandomOrder(t *testing.T) {
	r := rand.New(rand.NewSource(2))
	for range 300 {
		n, key, heats := r.Intn(40), 1+r.Intn(2147483646), 1+r.Intn(16)
		l := randomEntrants(r, n, 5)
		order, e := Order(l, key)
		check(t, "Order", e, api.OK)
		check(t, "each one once", slices.Sorted(slices.Values(order)), numbers(n))
		drawn := draw(key, n)
		for i := 1; i < n; i++ {
			if !before(l, drawn, order[i-1], order[i]) {
				t.Fatalf("%v by %d: %d comes ahead of %d", l, key, order[i-1], order[i])
			}
		}
		inHeats, _ := Heats(l, heats, key)
		check(t, "Heats are ranked", CheckHeats(l, key, inHeats), api.OK)
		ranks, _ := Zigzag(n, heats)
		for i, heat := range ranks {
			for j, rank := range heat {
				check(t, "an entrant of the heat", inHeats[i][j], order[rank])
			}
		}
	}
}

// TestRandomHeats has heats drawn at random, of which all pairs are looked at.
func TestRandomHeats(t *testing.T) {
	r := rand.New(rand.NewSource(3))
	results := map[api.Errno]int{}
	for range 2000 {
		n, key, heats := r.Intn(7), 1+r.Intn(1000), 1+r.Intn(4)
		l := randomEntrants(r, n, 3)
		drawn := make([][]int, heats)
		heatOf := make([]int, n)
		for _, x := range r.Perm(n) {
			heatOf[x] = r.Intn(heats)
			drawn[heatOf[x]] = append(drawn[heatOf[x]], x)
		}
		order, _ := Order(l, key)
		want, clashes := api.OK, 0
		if !hasRanks(order, heatOf, heats) {
			want = api.ErrConflict
		}
		for a := range n {
			for b := range a {
				if heatOf[a] == heatOf[b] && l[a].Club == l[b].Club {
					clashes++
				}
			}
		}
		results[want]++
		check(t, "CheckHeats", CheckHeats(l, key, drawn), want)
		got, e := Clashes(l, drawn)
		check(t, "Clashes", e, api.OK)
		check(t, "Clashes", got, clashes)
	}
	if results[api.OK] < 100 || results[api.ErrConflict] < 100 {
		t.Errorf("the results are %v", results)
	}
}

func TestRandomApart(t *testing.T) {
	r := rand.New(rand.NewSource(4))
	for range 400 {
		n, key, heats := r.Intn(161), 1+r.Intn(1000), 1+r.Intn(16)
		checkApart(t, "random entrants", randomEntrants(r, n, 1+r.Intn(40)), heats, key)
	}
}

// TestLanesAreDifferent checks that the athletes have different lanes, those of a group the lanes of this group.
func TestLanesAreDifferent(t *testing.T) {
	r := rand.New(rand.NewSource(5))
	for range 300 {
		lanes := r.Perm(10)[:1+r.Intn(10)]
		var p [][]int
		for i, lane := range lanes {
			if i == 0 || r.Intn(2) == 0 {
				p = append(p, nil)
			}
			p[len(p)-1] = append(p[len(p)-1], 1+lane)
		}
		n, key := r.Intn(len(lanes)+1), 1+r.Intn(2147483000)
		got, e := Lanes(p, n, key)
		check(t, "Lanes", e, api.OK)
		check(t, "as many lanes", len(got), n)
		for g, group := range p {
			drawn := draw(key+g, len(group))
			for k, lane := range got[:min(n, len(group))] {
				check(t, "a lane", lane, group[drawn[k]])
			}
			got = got[min(n, len(group)):]
			n = len(got)
		}
	}
}

// TestChartFalls goes through all charts: the numbers fall down to one heat.
func TestChartFalls(t *testing.T) {
	for athletes := 0; athletes <= 160; athletes++ {
		for lanes := 1; lanes <= 10; lanes++ {
			l, e := Chart(athletes, lanes)
			if athletes > 16*lanes {
				check(t, "Chart", e, api.ErrMany)
				continue
			}
			check(t, "Chart", e, api.OK)
			if athletes == 0 {
				check(t, "the chart of nobody", l, []Round{})
				continue
			}
			numbers, e := Numbers(athletes, lanes, l)
			check(t, "Numbers", e, api.OK)
			check(t, "the first number", numbers[0], athletes)
			checkChart(t, numbers, lanes, l)
		}
	}
}

// checkChart checks the rounds of a chart with as many athletes in each.
func checkChart(t *testing.T, numbers []int, lanes int, l []Round) {
	t.Helper()
	for i, r := range l {
		n := numbers[i]
		if lanes*r.Heats < n || lanes*(r.Heats-1) >= n {
			t.Errorf("%d heats of %d lanes for %d", r.Heats, lanes, n)
		}
		if i == len(l)-1 {
			check(t, "the last round", r, Round{1, 0, 0})
			continue
		}
		if numbers[i+1] >= n || r.Heats < 2 {
			t.Errorf("%d athletes in %d heats, then %d", n, r.Heats, numbers[i+1])
		}
		check(t, "who advances", numbers[i+1], lanes*((r.Heats+1)/2))
		check(t, "who advances from the heats", r.Heats*r.Place+r.Time, numbers[i+1])
		if r.Time < 0 || r.Time >= r.Heats {
			t.Errorf("%d of %d heats advance by time", r.Time, r.Heats)
		}
	}
}
