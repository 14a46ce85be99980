package timetable

import (
	"slices"

	"stadion/api"
)

// settle moves rounds of a table no later than the edges require, and reports whether this comes to an end: it does not with edges in a circle.
func settle(t []int, edges []edge) bool {
passes:
	for pass := 0; ; pass++ {
		moved := false
		for _, e := range edges {
			if !e.isKeptBy(t) {
				t[e.after], moved = t[e.before]+e.apart, true
			}
		}
		switch {
		case !moved:
			break passes
		// Without a circle a pass for each round is enough.
		case pass == len(t):
			return false
		}
	}
	return true
}

// edgesOf returns the edges of demands that come from orders.
func edgesOf(l []demand) []edge {
	return each(l, func(d demand) edge { return d.one })
}

// Windows returns the minutes at which rounds can begin by windows and orders.
func Windows(p Plan) ([][2]int, api.Errno) {
	if e := CheckPlan(p); e != api.OK {
		return nil, e
	}
	x := problemOf(p, slices.Concat(windowsOf(p), ordersOf(p)))
	edges := edgesOf(x.demands)
	if !settle(x.early, edges) || !areAtLeast(x.late, x.early) {
		return nil, api.ErrInfeasible
	}
	late := latest(x.late, edges)
	windows := make([][2]int, len(p.Rounds))
	for i := range windows {
		windows[i] = [2]int{x.early[i], late[i]}
	}
	return windows, api.OK
}

// latest returns the last minutes at which rounds may begin by edges that are in no circle: the first ones if time runs backwards.
func latest(late []int, edges []edge) []int {
	negative := func(n int) int { return -n }
	t := each(late, negative)
	settle(t, each(edges, func(e edge) edge { return edge{e.after, e.before, e.apart} }))
	return each(t, negative)
}

// Chain returns the minutes that orders need at least.
func Chain(p Plan) (int, api.Errno) {
	if e := CheckPlan(p); e != api.OK {
		return 0, e
	}
	x := problemOf(p, ordersOf(p))
	if !settle(x.early, edgesOf(x.demands)) {
		return 0, api.ErrInfeasible
	}
	return end(p, x.early), api.OK
}
