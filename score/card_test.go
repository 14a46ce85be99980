package score

import (
	"cmp"
	"fmt"
	"math/rand"
	"slices"
	"testing"

	"stadion/api"
)

// exact returns a scale of exact lengths whose points are 1 more than the values, up to 100.
func exact(event string) Scale {
	return Scale{event, "length", "exact", []Step{{0, 1}, {99, 100}}}
}

// leaps returns a card of lengths with some points by scales of exact lengths; 0 is no mark.
func leaps(athlete string, points ...int) Card {
	c := Card{Athlete: athlete}
	for _, n := range points {
		if n == 0 {
			c.Marks = append(c.Marks, none("NM"))
		} else {
			c.Marks = append(c.Marks, leap(n-1))
		}
	}
	return c
}

func TestErrorsOfCombinations(t *testing.T) {
	events := func(n int) []Scale { return repeated(n, func(i int) Scale { return exact(named(i)) }) }
	for _, x := range []struct {
		what string
		l    []Scale
		want api.Errno
	}{
		{"no scales", nil, api.ErrEmpty},
		{"ten scales", events(10), api.OK},
		{"eleven scales", events(11), api.ErrMany},
		{"eleven wrong scales", make([]Scale, 11), api.ErrMany},
		{"a wrong scale", []Scale{dash(), {}}, api.ErrName},
		{"an event twice", []Scale{exact("a"), exact("b"), exact("a")}, api.ErrTwice},
		{"an event twice with other scales", []Scale{exact("jump"), jump()}, api.ErrTwice},
		{"a wrong scale with an event twice", []Scale{exact("a"), {Event: "a"}}, api.ErrKind},
		{"events with letters of another size", []Scale{exact("a"), exact("A")}, api.OK},
	} {
		c := Card{"ann", repeated(len(x.l), func(int) api.Mark { return leap(1) })}
		check(t, x.what, CheckCards(x.l, nil), x.want)
		totals, e := Totals(x.l, nil)
		checkBoth(t, x.what+", Totals", totals, e, []int{}, x.want)
		ranks, e := Rank(x.l, nil)
		checkBoth(t, x.what+", Rank", ranks, e, []int{}, x.want)
		series, e := Series(x.l, c)
		checkBoth(t, x.what+", Series", series, e, repeated(len(x.l), func(int) int { return 2 }), x.want)
	}
}

func TestErrorsOfCards(t *testing.T) {
	l := []Scale{dash(), jump()}
	for what, e := range map[string]func(c Card) api.Errno{
		"CheckCards": func(c Card) api.Errno { return CheckCards(l, []Card{{"bob", marks(run(1), leap(1))}, c}) },
		"Series": func(c Card) api.Errno {
			s, e := Series(l, c)
			if e != api.OK {
				checkNothing(t, "Series", s)
			}
			return e
		},
		"Totals": func(c Card) api.Errno {
			s, e := Totals(l, []Card{c})
			if e != api.OK {
				checkNothing(t, "Totals", s)
			}
			return e
		},
		"Rank": func(c Card) api.Errno {
			s, e := Rank(l, []Card{c})
			if e != api.OK {
				checkNothing(t, "Rank", s)
			}
			return e
		},
	} {
		climb(t, what, Card{"1", marks(run(1))}, e,
			rung[Card]{api.ErrName, func(c *Card) { c.Athlete = "ann" }},
			rung[Card]{api.ErrShape, func(c *Card) { c.Marks = marks(run(1), leap(1), none("DNF")) }},
			rung[Card]{api.ErrShape, func(c *Card) { c.Marks = marks(leap(1), leap(-1)) }},
			rung[Card]{api.ErrKind, func(c *Card) { c.Marks[0].Kind = "time" }},
			rung[Card]{api.ErrRange, func(c *Card) { c.Marks[1] = api.Mark{Kind: "length", Reason: "DNS", Value: -1} }},
			rung[Card]{api.ErrForm, func(c *Card) { c.Marks[1] = pointed(1) }},
			rung[Card]{api.ErrKind, func(c *Card) { c.Marks[1] = none("") }},
			rung[Card]{api.ErrForm, func(c *Card) { c.Marks[1] = none("DQ") }},
		)
	}
	check(t, "an athlete twice", CheckCards([]Scale{exact("a")}, []Card{leaps("ann", 1), leaps("bob", 1), leaps("ann", 2)}), api.ErrTwice)
	check(t, "a wrong card of an athlete twice", CheckCards([]Scale{exact("a")}, []Card{leaps("ann", 1), leaps("ann", 1, 1)}), api.ErrShape)
	check(t, "a wrong card ahead of a wrong name", CheckCards([]Scale{exact("a")}, []Card{leaps("ann"), leaps("1", 1)}), api.ErrShape)
	many := func(n int) []Card { return repeated(n, func(i int) Card { return leaps(named(i), 1) }) }
	check(t, "160 cards", CheckCards([]Scale{exact("a")}, many(160)), api.OK)
	check(t, "161 cards", CheckCards([]Scale{exact("a")}, many(161)), api.ErrMany)
	check(t, "161 wrong cards", CheckCards([]Scale{exact("a")}, make([]Card, 161)), api.ErrMany)
	check(t, "161 cards for no scales", CheckCards(nil, many(161)), api.ErrEmpty)
}

func TestCards(t *testing.T) {
	two := []Scale{exact("a"), exact("b")}
	three := []Scale{exact("a"), exact("b"), exact("c")}
	dns := Card{"dan", marks(none("DNS"), leap(99))}
	for _, x := range []struct {
		what          string
		l             []Scale
		c             []Card
		totals, ranks []int
	}{
		{"nobody", two, nil, nil, nil},
		{"by the total", two, []Card{leaps("ann", 3, 3), leaps("bob", 1, 6)}, []int{6, 7}, []int{2, 1}},
		{"by the greatest number", two, []Card{leaps("ann", 3, 4), leaps("bob", 6, 1)}, []int{7, 7}, []int{2, 1}},
		{"by the second greatest number", three, []Card{leaps("ann", 2, 6, 2), leaps("bob", 1, 3, 6)}, []int{10, 10}, []int{2, 1}},
		{"in another order", three, []Card{leaps("ann", 1, 2, 3), leaps("bob", 3, 1, 2), leaps("cat", 1, 1, 3)}, []int{6, 6, 5}, []int{1, 1, 3}},
		{"no mark", two, []Card{leaps("ann", 0, 0), leaps("bob", 0, 5), leaps("cat", 0, 0)}, []int{0, 5, 0}, []int{2, 1, 2}},
		{"one has retired", two, []Card{leaps("ann", 1, 1), dns, leaps("bob", 1, 2)}, []int{2, 100, 3}, []int{2, 0, 1}},
		{"all have retired", two, []Card{dns, {"ann", marks(leap(99), none("DNS"))}}, []int{100, 100}, []int{0, 0}},
		{"other reasons", two, []Card{{"ann", marks(none("DQ"), none("NM"))}, {"bob", marks(none("DNF"), none("DNF"))}}, []int{0, 0}, []int{1, 1}},
		{"one event", two[:1], []Card{leaps("ann", 5), leaps("bob", 5), leaps("cat", 4)}, []int{5, 5, 4}, []int{1, 1, 3}},
	} {
		totals, e := Totals(x.l, x.c)
		checkBoth(t, x.what+", the totals", totals, e, x.totals, api.OK)
		ranks, e := Rank(x.l, x.c)
		checkBoth(t, x.what+", the ranks", ranks, e, x.ranks, api.OK)
	}
	series, e := Series(three, leaps("ann", 4, 0, 100))
	checkBoth(t, "the series", series, e, []int{4, 0, 100}, api.OK)
}

// isAheadInDuel reports whether a card of an athlete is ahead of another one, neither of whom has retired.
func isAheadInDuel(l []Scale, a, b Card) bool {
	numbers := func(c Card) (total int, points []int) {
		for i, m := range c.Marks {
			points = append(points, pointsByLine(l[i], m))
			total += points[i]
		}
		return total, points
	}
	totalOfA, pointsOfA := numbers(a)
	totalOfB, pointsOfB := numbers(b)
	for totalOfA == totalOfB && len(pointsOfA) > 0 {
		i, j := greatest(pointsOfA), greatest(pointsOfB)
		totalOfA, totalOfB = pointsOfA[i], pointsOfB[j]
		pointsOfA, pointsOfB = slices.Delete(pointsOfA, i, i+1), slices.Delete(pointsOfB, j, j+1)
	}
	return totalOfA > totalOfB
}

func greatest(l []int) int {
	place := 0
	for i, n := range l {
		if n > l[place] {
			place = i
		}
	}
	return place
}

// randomCards returns a combination and cards with few different points.
func randomCards(r *rand.Rand) ([]Scale, []Card) {
	l := repeated(1+r.Intn(5), func(i int) Scale {
		s := randomScale(r, 30)
		s.Event = named(i)
		return s
	})
	c := repeated(r.Intn(9), func(i int) Card {
		return Card{named(i), repeated(len(l), func(i int) api.Mark {
			switch r.Intn(30) {
			case 0:
				return none("DNS")
			case 1, 2:
				return none([]string{"DNF", "DQ", "NM"}[r.Intn(3)])
			}
			return api.Mark{Kind: l[i].Kind, Value: 1 + r.Intn(35)}
		})}
	})
	return l, c
}

func TestRandomCards(t *testing.T) {
	r := rand.New(rand.NewSource(3))
	retired := func(c Card) bool { return slices.Contains(c.Marks, none("DNS")) }
	for range 5000 {
		l, c := randomCards(r)
		totals, e := Totals(l, c)
		check(t, "Totals", e, api.OK)
		ranks, e := Rank(l, c)
		check(t, "Rank", e, api.OK)
		for i, x := range c {
			series, e := Series(l, x)
			check(t, "Series", e, api.OK)
			total, rank := 0, 1
			for j, m := range x.Marks {
				check(t, fmt.Sprint("the points of ", m), series[j], pointsByLine(l[j], m))
				total += series[j]
			}
			check(t, "the total", totals[i], total)
			for _, other := range c {
				if !retired(other) && isAheadInDuel(l, other, x) {
					rank++
				}
			}
			if retired(x) {
				rank = 0
			}
			check(t, fmt.Sprint("the rank of ", x, " among ", c), ranks[i], rank)
		}
	}
}

// TestAheadIsATotalPreorder checks that the ranks order all pairs, and that ranks do not depend on the order of the cards.
func TestAheadIsATotalPreorder(t *testing.T) {
	r := rand.New(rand.NewSource(4))
	for range 3000 {
		l, c := randomCards(r)
		ranks, _ := Rank(l, c)
		for i := range c {
			for j := i + 1; j < len(c); j++ {
				if ranks[i] > 0 && ranks[j] > 0 {
					pair, _ := Rank(l, []Card{c[i], c[j]})
					check(t, "the order of two athletes", cmp.Compare(pair[0], pair[1]), cmp.Compare(ranks[i], ranks[j]))
				}
			}
		}
		order := r.Perm(len(c))
		again, _ := Rank(l, each(order, func(i int) Card { return c[i] }))
		check(t, "the ranks in another order", again, each(order, func(i int) int { return ranks[i] }))
	}
}
