package timetable

import (
	"slices"

	"stadion/api"
)

// contradict reports whether no table fulfils the conditions with these numbers.
func contradict(p Plan, all []condition, numbers []int) bool {
	return !problemOf(p, each(numbers, func(i int) condition { return all[i] })).isFulfillable()
}

// countTo returns the numbers below n.
func countTo(n int) []int {
	l := make([]int, n)
	for i := range l {
		l[i] = i
	}
	return l
}

// Core returns conditions that contradict each other, none of which can be left out.
func Core(p Plan) ([]int, api.Errno) {
	if e := exactError(p); e != api.OK {
		return nil, e
	}
	all := conditions(p)
	core := countTo(len(all))
	if !contradict(p, all, core) {
		return nil, api.ErrNone
	}
	for i := len(all) - 1; i >= 0; i-- {
		if others := slices.Delete(slices.Clone(core), i, i+1); contradict(p, all, others) {
			core = others
		}
	}
	return core, api.OK
}

// Smallest returns the fewest conditions that contradict each other.
func Smallest(p Plan) ([]int, api.Errno) {
	if e := exactError(p); e != api.OK {
		return nil, e
	}
	all := conditions(p)
	if len(all) > MaxSmall {
		return nil, api.ErrLimit
	}
	smallest := countTo(len(all))
	if !contradict(p, all, smallest) {
		return nil, api.ErrNone
	}
	for set := range 1 << len(all) {
		if l := members(set); isBefore(l, smallest) && contradict(p, all, l) {
			smallest = l
		}
	}
	return smallest, api.OK
}

// members returns the places of the bits of a set.
func members(set int) []int {
	var l []int
	for i := 0; set>>i > 0; i++ {
		if set>>i&1 == 1 {
			l = append(l, i)
		}
	}
	return l
}

// CheckConflict returns OK for conditions that contradict each other.
func CheckConflict(p Plan, l []int) api.Errno {
	if e := exactError(p); e != api.OK {
		return e
	}
	all := conditions(p)
	e := first(
		when(len(l) == 0, api.ErrEmpty),
		firstOf(l, func(i, n int) api.Errno {
			return first(
				when(n < 0 || n >= len(all), api.ErrUnknown),
				when(i > 0 && n <= l[i-1], api.ErrOrder))
		}))
	if e != api.OK {
		return e
	}
	return when(!contradict(p, all, l), api.ErrProof)
}
