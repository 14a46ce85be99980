package seed

import (
	"slices"

	"stadion/api"
	"stadion/mark"
)

// CheckRunners returns the first error of the heats of a round, or OK.
func CheckRunners(l [][]Runner) api.Errno {
	if len(l) > api.MaxHeats {
		return api.ErrMany
	}
	return firstOf(l, names{}.heatError)
}

func (n names) heatError(l []Runner) api.Errno {
	if len(l) > api.MaxAthletes {
		return api.ErrMany
	}
	return firstOf(l, n.runnerError)
}

func (n names) runnerError(x Runner) api.Errno {
	return first(
		n.nameError(x.Name),
		mark.CheckMark(x.Mark),
		when(x.Mark.Kind != kindTime && x.Mark.Kind != kindNone, api.ErrKind),
	)
}

// Places returns the places of a heat.
func Places(l []Runner) ([]int, api.Errno) {
	if e := CheckRunners([][]Runner{l}); e != api.OK {
		return nil, e
	}
	return placesOf(l), api.OK
}

// placesOf returns the places of any number of runners.
func placesOf(l []Runner) []int {
	var times []int
	for _, x := range l {
		if hasTime(x) {
			times = append(times, x.Mark.Value)
		}
	}
	slices.Sort(times)
	places := make([]int, len(l))
	for i, x := range l {
		if hasTime(x) {
			lesser, _ := slices.BinarySearch(times, x.Mark.Value)
			places[i] = 1 + lesser
		}
	}
	return places
}

func hasTime(x Runner) bool {
	return x.Mark.Kind == kindTime
}
