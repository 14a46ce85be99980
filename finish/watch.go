package finish

import (
	"slices"

	"stadion/api"
	"stadion/mark"
)

const (
	maxWatches = 3
	watchClass = "tenths"
)

// Watch returns the official time of watches.
func Watch(l []int) (api.Mark, api.Errno) {
	e := first(when(len(l) == 0, api.ErrEmpty), listError(l, maxWatches, watchError))
	if e != api.OK {
		return api.Mark{}, e
	}
	var times []int
	for _, n := range l {
		m, e := officialMark(n, watchClass)
		if e != api.OK {
			return api.Mark{}, e
		}
		times = append(times, m.Value)
	}
	slices.Sort(times)
	// of three the middle one, of two the greater one, of one its own
	return api.Mark{Kind: kindTime, Value: times[len(times)/2]}, api.OK
}

func watchError(n int) api.Errno {
	return rangeError(n, 1, api.MaxTime)
}

// Agree returns whether a time of watches agrees with a reading.
func Agree(s api.Span, watch api.Mark, tolerance int) (bool, api.Errno) {
	e := first(
		spanError(s),
		mark.CheckMark(watch),
		when(watch.Kind != kindTime, api.ErrKind),
		toleranceError(tolerance),
	)
	if e != api.OK {
		return false, e
	}
	return compare(s.Low, integer(watch.Value+tolerance)) <= 0 && compare(s.High, integer(watch.Value-tolerance)) >= 0, api.OK
}
