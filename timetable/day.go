package timetable

import (
	"cmp"
	"iter"
	"maps"
	"math"
	"slices"

	"stadion/api"
)

// roundsOf goes through the numbers of the rounds that need an athlete.
func roundsOf(p Plan, athlete string) iter.Seq[int] {
	return func(yield func(i int) bool) {
		for i, r := range p.Rounds {
			if slices.Contains(r.Athletes, athlete) && !yield(i) {
				return
			}
		}
	}
}

// Day returns the rounds of an athlete in the order of a table.
func Day(p Plan, t []int, athlete string) ([]int, api.Errno) {
	if e := tableError(p, t); e != api.OK {
		return nil, e
	}
	var l []int
	for i := range roundsOf(p, athlete) {
		l = append(l, i)
	}
	slices.SortStableFunc(l, func(i, j int) int { return cmp.Compare(t[i], t[j]) })
	return l, when(len(l) == 0, api.ErrUnknown)
}

// Rest returns the least rest of an athlete.
func Rest(p Plan, t []int, athlete string) (int, api.Errno) {
	l, e := Day(p, t, athlete)
	if e := first(e, when(len(l) == 1, api.ErrNone)); e != api.OK {
		return 0, e
	}
	least := math.MaxInt
	for i, next := range l[1:] {
		least = min(least, t[next]-t[l[i]]-p.Rounds[l[i]].Minutes)
	}
	return least, api.OK
}

// Slack returns how much later each round can begin by itself.
func Slack(p Plan, t []int) ([]int, api.Errno) {
	if e := tableError(p, t); e != api.OK {
		return nil, e
	}
	x := problemOf(p, conditions(p))
	if !x.isFulfilledBy(t) {
		return nil, api.ErrConflict
	}
	slack := make([]int, len(t))
	for i, begin := range t {
		slack[i] = x.late[i] - begin
	}
	// A table keeps only one way of a demand: the round that is behind may move freely.
	for _, d := range x.demands {
		e := d.one
		if !e.isKeptBy(t) {
			e = d.other
		}
		slack[e.before] = min(slack[e.before], t[e.after]-t[e.before]-e.apart)
	}
	return slack, api.OK
}

// Load returns the minutes of each area.
func Load(p Plan) ([]Use, api.Errno) {
	if e := CheckPlan(p); e != api.OK {
		return nil, e
	}
	minutes := map[string]int{}
	for _, r := range p.Rounds {
		for _, area := range r.Areas {
			minutes[area] += r.Minutes
		}
	}
	return each(slices.Sorted(maps.Keys(minutes)), func(area string) Use { return Use{area, minutes[area]} }), api.OK
}
