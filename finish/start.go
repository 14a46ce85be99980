package finish

import (
	"slices"

	"stadion/api"
)

const (
	maxStep    = 10000 // between two samples
	noReaction = -1
)

// Reaction returns when a force first exceeds a threshold.
func Reaction(samples []int, step, threshold int) (int, api.Errno) {
	e := first(
		listError(samples, api.MaxEvents, forceError),
		rangeError(step, 1, maxStep),
		forceError(threshold),
	)
	if e != api.OK {
		return 0, e
	}
	at := slices.IndexFunc(samples, func(force int) bool { return force > threshold })
	if at < 0 {
		return 0, api.ErrNone
	}
	return at * step, api.OK
}

func forceError(n int) api.Errno {
	return rangeError(n, 0, api.MaxNumber)
}

// FalseStarts returns the lanes with false starts.
func FalseStarts(reactions []int) ([]int, api.Errno) {
	if e := listError(reactions, api.MaxLanes, reactionError); e != api.OK {
		return nil, e
	}
	var lanes []int
	for i, reaction := range reactions {
		if reaction != noReaction && reaction < Limit {
			lanes = append(lanes, i+1)
		}
	}
	return lanes, api.OK
}

func reactionError(n int) api.Errno {
	return rangeError(n, noReaction, api.MaxTime)
}
