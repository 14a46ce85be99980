package track

import (
	"iter"

	"stadion/api"
)

const (
	maxWidth = 10000
	maxLaps  = 100
)

// CheckOval returns the first error of an oval, or OK.
func CheckOval(o Oval) api.Errno {
	return first(
		lengthError(o.Straight),
		lengthError(o.Radius),
		rangeError(o.Width, 1, maxWidth),
		rangeError(o.First, 0, o.Width),
		rangeError(o.Other, 0, o.Width),
		when(o.Lanes < 1 || o.Lanes > api.MaxLanes, api.ErrLane))
}

// laneError returns the error of an oval, or of a lane that it does not have.
func laneError(o Oval, lane int) api.Errno {
	return first(CheckOval(o), when(lane < 1 || lane > o.Lanes, api.ErrLane))
}

// countError returns the error of a number of bends, or of straights.
func countError(n int) api.Errno {
	return rangeError(n, 0, MaxBends)
}

// Radius returns the running radius of a lane.
func Radius(o Oval, lane int) (int, api.Errno) {
	if e := laneError(o, lane); e != api.OK {
		return 0, e
	}
	return o.runningRadius(lane), api.OK
}

// Lap returns the span of the lap of a lane.
func Lap(o Oval, lane int) (api.Span, api.Errno) {
	if e := laneError(o, lane); e != api.OK {
		return api.Span{}, e
	}
	return o.lap(lane).span(), api.OK
}

// Run returns the span of some straights and bends in a lane.
func Run(o Oval, lane, straights, bends int) (api.Span, api.Errno) {
	if e := first(laneError(o, lane), countError(straights), countError(bends)); e != api.OK {
		return api.Span{}, e
	}
	return o.run(lane, straights, bends).span(), api.OK
}

func (o Oval) runningRadius(lane int) int {
	if lane == 1 {
		return o.Radius + o.First
	}
	return o.Radius + (lane-1)*o.Width + o.Other
}

func (o Oval) run(lane, straights, bends int) length {
	return length{straights * o.Straight, bends * o.runningRadius(lane)}
}

func (o Oval) lap(lane int) length {
	return o.run(lane, 2, 2)
}

// lanes goes through the lanes, from the lane 1 on.
func (o Oval) lanes() iter.Seq[int] {
	return func(yield func(lane int) bool) {
		for lane := 1; lane <= o.Lanes; lane++ {
			if !yield(lane) {
				return
			}
		}
	}
}
