package timetable

import (
	"fmt"
	"iter"
	"math/rand"
	"slices"
	"testing"
)

// law is a condition as the chapter defines it.
type law struct {
	Condition
	rest int
}

// common reports whether two lists have a common element.
func common(a, b []string) bool {
	for _, x := range a {
		for _, y := range b {
			if x == y {
				return true
			}
		}
	}
	return false
}

// laws are the conditions of a plan.
func laws(p Plan) []law {
	var l []law
	for i := range p.Rounds {
		l = append(l, law{Condition{"window", i, i}, 0})
	}
	for _, o := range p.Orders {
		l = append(l, law{Condition{"order", o.Before, o.After}, o.Rest})
	}
	for j := range p.Rounds {
		for i := range j {
			a, b := p.Rounds[i], p.Rounds[j]
			if common(a.Areas, b.Areas) {
				l = append(l, law{Condition{"area", i, j}, 0})
			}
			if common(a.Officials, b.Officials) {
				l = append(l, law{Condition{"official", i, j}, 0})
			}
			if common(a.Athletes, b.Athletes) {
				l = append(l, law{Condition{"athlete", i, j}, p.Rest})
			}
		}
	}
	// By pairs, with the lesser round ahead: windows and orders keep their places.
	slices.SortStableFunc(l[len(p.Rounds)+len(p.Orders):], func(a, b law) int { return (a.A-b.A)*100 + a.B - b.B })
	return l
}

// holds reports whether a table fulfils a condition.
func (c law) holds(p Plan, t []int) bool {
	end := func(i int) int { return t[i] + p.Rounds[i].Minutes }
	switch c.Kind {
	case "window":
		return t[c.A] >= p.Rounds[c.A].From && end(c.A) <= p.Rounds[c.A].To
	case "order":
		return end(c.A)+c.rest <= t[c.B]
	}
	return end(c.A)+c.rest <= t[c.B] || end(c.B)+c.rest <= t[c.A]
}

// broken returns the number of the first condition that a table does not fulfil, or how many there are.
func broken(p Plan, l []law, t []int) int {
	for i, c := range l {
		if !c.holds(p, t) {
			return i
		}
	}
	return len(l)
}

// endOf returns when all rounds have ended.
func endOf(p Plan, t []int) int {
	n := 0
	for i := range t {
		n = max(n, t[i]+p.Rounds[i].Minutes)
	}
	return n
}

// tables are all tables of n rounds that begin before a minute, in lexicographic order.
func tables(n, minute int) iter.Seq[[]int] {
	return func(yield func(t []int) bool) {
		t := make([]int, n)
		for {
			if !yield(t) {
				return
			}
			i := n - 1
			for i >= 0 && t[i] == minute-1 {
				t[i] = 0
				i--
			}
			if i < 0 {
				return
			}
			t[i]++
		}
	}
}

// sequences are all sequences of the numbers below n.
func sequences(n int) [][]int {
	if n == 0 {
		return [][]int{nil}
	}
	var all [][]int
	for _, s := range sequences(n - 1) {
		for i := range n {
			all = append(all, slices.Insert(slices.Clone(s), i, n-1))
		}
	}
	return all
}

// candidates are, for each sequence in which the rounds may begin, the table that begins each one as early as possible, if it fulfils some conditions. One of them is as good as any table.
func candidates(p Plan, l []law) [][]int {
	var all [][]int
	for _, s := range sequences(len(p.Rounds)) {
		t := make([]int, len(s))
		for i, a := range s {
			for _, c := range l {
				for _, b := range s[:i] {
					if c.A == b && c.B == a || c.A == a && c.B == b && c.Kind != "order" {
						t[a] = max(t[a], t[b]+p.Rounds[b].Minutes+c.rest)
					}
				}
				if c.Kind == "window" && c.A == a {
					t[a] = max(t[a], p.Rounds[a].From)
				}
			}
		}
		if broken(p, l, t) == len(l) {
			all = append(all, t)
		}
	}
	return all
}

// subset returns the elements at some places.
func subset[T any](l []T, places []int) []T {
	return each(places, func(i int) T { return l[i] })
}

// randomPlan returns a plan of n rounds that share things now and then, with windows below an end.
func randomPlan(r *rand.Rand, n, minutes, rest, end int) Plan {
	some := func(l ...string) []string {
		var list []string
		for _, x := range l {
			if r.Intn(3) == 0 {
				list = append(list, x)
			}
		}
		return list
	}
	p := Plan{Rest: r.Intn(rest + 1)}
	for i := range n {
		from := 0
		if r.Intn(3) == 0 {
			from = r.Intn(end)
		}
		to := end
		if r.Intn(3) == 0 {
			to = from + r.Intn(end-from+1)
		}
		p.Rounds = append(p.Rounds, Round{named(i), 1 + r.Intn(minutes), some("x", "y"), some("y", "z"), some("v", "w"), from, to})
	}
	for r.Intn(2) == 0 && n > 1 && len(p.Orders) < 24 {
		a := r.Intn(n)
		p.Orders = append(p.Orders, Order{a, (a + 1 + r.Intn(n-1)) % n, r.Intn(rest + 1)})
	}
	return p
}

// manyPlans goes through random plans of up to n rounds, each with its text.
func manyPlans(seed int64, count, n, minutes, rest, end int) iter.Seq2[string, Plan] {
	return func(yield func(what string, p Plan) bool) {
		r := rand.New(rand.NewSource(seed))
		for range count {
			p := randomPlan(r, r.Intn(n+1), minutes, rest, end)
			if !yield(fmt.Sprintf("%+v", p), p) {
				return
			}
		}
	}
}

// TestReference compares the candidates with all tables.
func TestReference(t *testing.T) {
	for what, p := range manyPlans(1, 1000, 3, 3, 2, 10) {
		l := laws(p)
		var firstTable []int
		least, found := 1000, false
		for x := range tables(len(p.Rounds), 10) {
			if broken(p, l, x) < len(l) {
				continue
			}
			if !found {
				firstTable, found = slices.Clone(x), true
			}
			least = min(least, endOf(p, x))
		}
		all := candidates(p, l)
		check(t, what, len(all) > 0, found)
		if found && len(all) > 0 {
			check(t, what, slices.MinFunc(all, slices.Compare), firstTable)
			check(t, what, endOf(p, slices.MinFunc(all, func(a, b []int) int { return endOf(p, a) - endOf(p, b) })), least)
		}
	}
}

// TestRandomConditions compares conditions, and what tables fulfil.
func TestRandomConditions(t *testing.T) {
	r := rand.New(rand.NewSource(2))
	found := map[bool]int{}
	for what, p := range manyPlans(3, 5000, 6, 5, 4, 60) {
		l := laws(p)
		got, e := Conditions(p)
		checkBoth(t, what, got, e, each(l, func(c law) Condition { return c.Condition }), 0)
		table := repeated(len(p.Rounds), func(int) int { return r.Intn(55) })
		want := broken(p, l, table)
		n, e := CheckTable(p, table)
		check(t, fmt.Sprint("what ", table, " does not fulfil of ", what), n, want)
		check(t, "whether it fulfils all", e == 0, want == len(l))
		found[e == 0]++
		n, e = End(p, table)
		checkBoth(t, "the end", n, e, endOf(p, table), 0)
	}
	if found[true] < 1000 || found[false] < 1000 {
		t.Errorf("the results are %v", found)
	}
}
