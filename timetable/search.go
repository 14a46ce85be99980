package timetable

import (
	"slices"

	"stadion/api"
)

// best returns a table that fulfils a problem so that no other one is better, or false if none fulfils it. No table is better than one of which no round begins later.
//
// A demand that the least table of the edges chosen so far does not fulfil is tried in all ways. No table with these edges begins a round earlier, so the least one has to be better than what has been found.
func (x problem) best(isBetter func(a, b []int) bool) ([]int, bool) {
	var best []int
	var edges []edge
	found := false
	var try func(t []int)
	try = func(t []int) {
		t = slices.Clone(t)
		if !settle(t, edges) || !areAtLeast(x.late, t) || found && !isBetter(t, best) {
			return
		}
		open := slices.IndexFunc(x.demands, func(d demand) bool { return !d.isFulfilledBy(t) })
		if open < 0 {
			best, found = t, true
			return
		}
		for _, way := range x.demands[open].ways() {
			edges = append(edges, way)
			try(t)
			edges = edges[:len(edges)-1]
		}
	}
	try(x.early)
	return best, found
}

// isFulfillable reports whether a table fulfils a problem.
func (x problem) isFulfillable() bool {
	_, found := x.best(func(_, _ []int) bool { return false })
	return found
}

// exactError returns the first error of a plan that is searched exactly, or OK.
func exactError(p Plan) api.Errno {
	return first(CheckPlan(p), when(len(p.Rounds) > api.MaxExact, api.ErrLimit))
}

// bestTable returns a table of a plan so that no other one is better.
func bestTable(p Plan, isBetter func(a, b []int) bool) ([]int, api.Errno) {
	if e := exactError(p); e != api.OK {
		return nil, e
	}
	t, found := problemOf(p, conditions(p)).best(isBetter)
	return t, when(!found, api.ErrInfeasible)
}

// First returns the lexicographically first table.
func First(p Plan) ([]int, api.Errno) {
	return bestTable(p, isBefore[int])
}

// Fastest returns a table with the least end.
func Fastest(p Plan) ([]int, api.Errno) {
	return bestTable(p, func(a, b []int) bool { return end(p, a) < end(p, b) })
}

// Least returns the least end of a table.
func Least(p Plan) (int, api.Errno) {
	t, e := Fastest(p)
	return end(p, t), e
}
