package timetable

import (
	"math"
	"slices"
)

// edge says that a round begins at least so many minutes after another one begins.
type edge struct {
	before int
	after  int
	apart  int
}

func edgeOf(p Plan, before, after, rest int) edge {
	return edge{before, after, p.Rounds[before].Minutes + rest}
}

func (e edge) isKeptBy(t []int) bool {
	return t[e.before]+e.apart <= t[e.after]
}

// demand says that a table keeps one of two edges, which are the same one for an order.
type demand struct {
	one   edge
	other edge
}

// ways returns the different edges of a demand.
func (d demand) ways() []edge {
	if d.one == d.other {
		return []edge{d.one}
	}
	return []edge{d.one, d.other}
}

func (d demand) isFulfilledBy(t []int) bool {
	return d.one.isKeptBy(t) || d.other.isKeptBy(t)
}

// problem is what a table has to fulfil: the first and the last minute at which each round may begin, and demands.
type problem struct {
	early   []int
	late    []int
	demands []demand
}

// problemOf returns what some conditions of a plan ask for. Without its window a round begins at 0 or later.
func problemOf(p Plan, l []condition) problem {
	x := problem{early: make([]int, len(p.Rounds)), late: slices.Repeat([]int{math.MaxInt}, len(p.Rounds))}
	for _, c := range l {
		switch c.Kind {
		case kindWindow:
			r := p.Rounds[c.A]
			x.early[c.A], x.late[c.A] = r.From, r.To-r.Minutes
		case kindOrder:
			e := edgeOf(p, c.A, c.B, c.rest)
			x.add(demand{e, e})
		default:
			x.add(demand{edgeOf(p, c.A, c.B, c.rest), edgeOf(p, c.B, c.A, c.rest)})
		}
	}
	return x
}

// add adds a demand, but not a second time.
func (x *problem) add(d demand) {
	if !slices.Contains(x.demands, d) {
		x.demands = append(x.demands, d)
	}
}

func (x problem) isFulfilledBy(t []int) bool {
	isOpen := func(d demand) bool { return !d.isFulfilledBy(t) }
	return areAtLeast(t, x.early) && areAtLeast(x.late, t) && !slices.ContainsFunc(x.demands, isOpen)
}

// areAtLeast reports whether no number of a list is below the one at its place in another list.
func areAtLeast(l, least []int) bool {
	for i, n := range l {
		if n < least[i] {
			return false
		}
	}
	return true
}
