package seed

import (
	"stadion/api"
)

// Chart returns the rounds of an event.
func Chart(athletes, lanes int) ([]Round, api.Errno) {
	if e := first(athletesError(athletes), lanesError(lanes)); e != api.OK {
		return nil, e
	}
	heats := divideUp(athletes, lanes)
	if heats > api.MaxHeats {
		return nil, api.ErrMany
	}
	if athletes == 0 {
		return nil, api.OK
	}
	var l []Round
	for heats > 1 {
		halved := divideUp(heats, 2)
		advance := lanes * halved
		l = append(l, Round{heats, advance / heats, advance % heats})
		heats = halved
	}
	return append(l, Round{Heats: 1}), api.OK
}

// lanesError returns the error of a number of lanes.
func lanesError(lanes int) api.Errno {
	return rangeError(lanes, 1, api.MaxLanes)
}

func divideUp(a, b int) int {
	return (a + b - 1) / b
}

// Numbers returns how many athletes there are in each round.
func Numbers(athletes, lanes int, l []Round) ([]int, api.Errno) {
	e := first(
		athletesError(athletes),
		lanesError(lanes),
		when(len(l) == 0, api.ErrEmpty),
		when(len(l) > api.MaxHeats, api.ErrMany),
	)
	if e != api.OK {
		return nil, e
	}
	var numbers []int
	for i, r := range l {
		if e := roundError(athletes, lanes, r, i == len(l)-1); e != api.OK {
			return nil, e
		}
		numbers = append(numbers, athletes)
		athletes = advanceFrom(r)
	}
	return numbers, api.OK
}

// roundError returns the error of a round of as many athletes.
func roundError(athletes, lanes int, r Round, last bool) api.Errno {
	e := first(
		heatsError(r.Heats),
		rangeError(r.Place, 0, api.MaxLanes),
		athletesError(r.Time),
		when(athletes > r.Heats*lanes, api.ErrLane),
	)
	switch {
	case e != api.OK:
		return e
	case last:
		return when(r != Round{Heats: 1}, api.ErrForm)
	}
	// If Place is more than the athletes of the smallest heat, then the heats times Place are more than all athletes.
	return when(advanceFrom(r) > athletes, api.ErrInfeasible)
}

// advanceFrom returns how many athletes are to advance from a round.
func advanceFrom(r Round) int {
	return r.Heats*r.Place + r.Time
}
