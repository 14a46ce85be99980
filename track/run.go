package track

import "stadion/api"

// CheckRun returns the first error of a run of a relay, and its exchange.
func CheckRun(r Relay, l []Exchange, finish int) (int, api.Errno) {
	if e := first(CheckRelay(r), when(len(l) != len(r.Legs)-1, api.ErrShape), timeError(finish)); e != api.OK {
		return 0, e
	}
	zones := r.zones()
	at, e := firstOf(l, func(i int, x Exchange) api.Errno {
		return first(
			rangeError(x.Place, 0, api.MaxNumber),
			timeError(x.Time),
			when(i > 0 && (x.Place <= l[i-1].Place || x.Time <= l[i-1].Time), api.ErrOrder),
			when(x.Place < zones[i][0] || x.Place > zones[i][1], api.ErrRule))
	})
	if e != api.OK {
		return at, e
	}
	if last := len(l) - 1; finish <= l[last].Time {
		return last, api.ErrOrder
	}
	return 0, api.OK
}

// Legs returns the times of the legs.
func Legs(r Relay, l []Exchange, finish int) ([]int, api.Errno) {
	return ofLegs(r, l, finish, func(_, time int) int { return time })
}

// Splits returns the speeds of the legs.
func Splits(r Relay, l []Exchange, finish int) ([]api.Rat, api.Errno) {
	return ofLegs(r, l, finish, fraction)
}

// ofLegs returns what follows from the distance and the time of each leg, from one exchange to the next one.
func ofLegs[T any](r Relay, l []Exchange, finish int, result func(distance, time int) T) ([]T, api.Errno) {
	if _, e := CheckRun(r, l, finish); e != api.OK {
		return nil, e
	}
	var list []T
	var before Exchange
	for i := range r.Legs {
		now := Exchange{Place: r.distance(), Time: finish}
		if i < len(l) {
			now = l[i]
		}
		list = append(list, result(now.Place-before.Place, now.Time-before.Time))
		before = now
	}
	return list, api.OK
}
