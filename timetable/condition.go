package timetable

import (
	"slices"

	"stadion/api"
)

// The kinds of conditions of one round, and of rounds in a given order.
const (
	kindWindow = "window"
	kindOrder  = "order"
)

// kind is a kind of conditions of two rounds that share something: what it is, and the rest between both.
type kind struct {
	name  string
	needs func(r Round) []string
	rest  func(p Plan) int
}

// kinds returns the kinds of what rounds share, in the sequence of the conditions.
func kinds() []kind {
	none := func(Plan) int { return 0 }
	return []kind{
		{"area", func(r Round) []string { return r.Areas }, none},
		{"official", func(r Round) []string { return r.Officials }, none},
		{"athlete", func(r Round) []string { return r.Athletes }, func(p Plan) int { return p.Rest }},
	}
}

// share reports whether two lists have a name in common.
func share(a, b []string) bool {
	return slices.ContainsFunc(a, func(name string) bool { return slices.Contains(b, name) })
}

// condition is one of a plan, with the minutes of rest between its two rounds.
type condition struct {
	Condition
	rest int
}

// windowsOf returns the conditions of the windows of a plan.
func windowsOf(p Plan) []condition {
	var l []condition
	for i := range p.Rounds {
		l = append(l, condition{Condition{kindWindow, i, i}, 0})
	}
	return l
}

// ordersOf returns the conditions of the orders of a plan.
func ordersOf(p Plan) []condition {
	return each(p.Orders, func(o Order) condition { return condition{Condition{kindOrder, o.Before, o.After}, o.Rest} })
}

// sharesOf returns the conditions of the rounds of a plan that share something.
func sharesOf(p Plan) []condition {
	var l []condition
	for i, a := range p.Rounds {
		for j := i + 1; j < len(p.Rounds); j++ {
			for _, k := range kinds() {
				if share(k.needs(a), k.needs(p.Rounds[j])) {
					l = append(l, condition{Condition{k.name, i, j}, k.rest(p)})
				}
			}
		}
	}
	return l
}

// conditions returns the conditions of a plan in their sequence.
func conditions(p Plan) []condition {
	return slices.Concat(windowsOf(p), ordersOf(p), sharesOf(p))
}

// Conditions returns all conditions of a plan.
func Conditions(p Plan) ([]Condition, api.Errno) {
	if e := CheckPlan(p); e != api.OK {
		return nil, e
	}
	return each(conditions(p), func(c condition) Condition { return c.Condition }), api.OK
}

// CheckTable returns OK for a table that fulfils all conditions, or the first one that it does not.
func CheckTable(p Plan, t []int) (int, api.Errno) {
	if e := tableError(p, t); e != api.OK {
		return 0, e
	}
	l := conditions(p)
	for i := range l {
		if !problemOf(p, l[i:i+1]).isFulfilledBy(t) {
			return i, api.ErrConflict
		}
	}
	return len(l), api.OK
}
