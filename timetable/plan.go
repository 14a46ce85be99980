package timetable

import "stadion/api"

// maxLong is the greatest number of minutes of a round, and of a rest.
const maxLong = 1440

// CheckPlan returns the first error of a plan, or OK.
func CheckPlan(p Plan) api.Errno {
	rounds := names{}
	return first(
		listError(p.Rounds, MaxRounds, func(_ int, r Round) api.Errno {
			return first(rounds.newError(r.Name), roundError(r))
		}),
		listError(p.Orders, MaxRounds, func(_ int, o Order) api.Errno {
			return orderError(o, len(p.Rounds))
		}),
		restError(p.Rest))
}

// roundError returns the first error of a round but for its name, or OK.
func roundError(r Round) api.Errno {
	return first(
		rangeError(r.Minutes, 1, maxLong),
		namesError(r.Areas),
		namesError(r.Officials),
		namesError(r.Athletes),
		rangeError(r.From, 0, api.MaxMinute),
		rangeError(r.To, 0, api.MaxMinute),
		when(r.From > r.To, api.ErrOrder))
}

func namesError(l []string) api.Errno {
	there := names{}
	return listError(l, api.MaxAthletes, func(_ int, name string) api.Errno { return there.newError(name) })
}

// orderError returns the first error of an order of so many rounds, or OK.
func orderError(o Order, rounds int) api.Errno {
	isRound := func(n int) bool { return 0 <= n && n < rounds }
	return first(
		when(!isRound(o.Before) || !isRound(o.After), api.ErrUnknown),
		when(o.Before == o.After, api.ErrTwice),
		restError(o.Rest))
}

func restError(rest int) api.Errno {
	return rangeError(rest, 0, maxLong)
}

// tableError returns the first error of a plan and its table, or OK.
func tableError(p Plan, t []int) api.Errno {
	return first(
		CheckPlan(p),
		when(len(t) != len(p.Rounds), api.ErrShape),
		firstOf(t, func(_, begin int) api.Errno { return rangeError(begin, 0, api.MaxNumber) }))
}

// End returns when the last round of a table ends.
func End(p Plan, t []int) (int, api.Errno) {
	if e := tableError(p, t); e != api.OK {
		return 0, e
	}
	return end(p, t), api.OK
}

func end(p Plan, t []int) int {
	last := 0
	for i, begin := range t {
		last = max(last, begin+p.Rounds[i].Minutes)
	}
	return last
}
