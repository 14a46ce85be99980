package seed

import (
	"slices"

	"stadion/api"
	"stadion/mark"
)

// CheckPattern returns the first error of groups of lanes, or OK.
func CheckPattern(p [][]int) api.Errno {
	if len(p) > api.MaxLanes {
		return api.ErrMany
	}
	return first(when(len(p) == 0, api.ErrEmpty), firstOf(p, new(taken).groupError))
}

// taken has for each lane whether it has been there.
type taken [api.MaxLanes + 1]bool

func (t *taken) groupError(lanes []int) api.Errno {
	return first(when(len(lanes) == 0, api.ErrEmpty), firstOf(lanes, t.laneError))
}

// laneError returns the error of a further lane, which is there from then on.
func (t *taken) laneError(lane int) api.Errno {
	if lane < 1 || lane > api.MaxLanes || t[lane] {
		return api.ErrLane
	}
	t[lane] = true
	return api.OK
}

// Lanes returns the lanes of athletes, the best one first.
func Lanes(p [][]int, athletes, key int) ([]int, api.Errno) {
	if e := first(CheckPattern(p), athletesError(athletes)); e != api.OK {
		return nil, e
	}
	lanes, e := drawnLanes(p, key)
	if e := first(e, when(athletes > len(lanes), api.ErrLane)); e != api.OK {
		return nil, e
	}
	return slices.Clone(lanes[:athletes]), api.OK
}

// drawnLanes returns all lanes of a pattern, those of each group in its drawn order.
func drawnLanes(p [][]int, key int) ([]int, api.Errno) {
	var lanes []int
	for i, group := range p {
		order, e := mark.Draw(key+i, len(group))
		if e != api.OK {
			return nil, e
		}
		for _, place := range order {
			lanes = append(lanes, group[place])
		}
	}
	return lanes, api.OK
}
