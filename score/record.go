package score

import (
	"iter"
	"maps"
	"slices"

	"stadion/api"
	"stadion/mark"
)

const (
	never   = -1  // the day of what has not happened
	anyWind = -1  // the greatest wind if it does not matter
	maxWind = 999 // tenths
)

func termsError(t Terms) api.Errno {
	return first(
		when(!slices.Contains([]string{kindTime, kindLength, kindPoints}, t.Kind), api.ErrKind),
		rangeError(t.Wind, anyWind, maxWind),
		dayError(t.From))
}

// claimError returns the first error of a claim for terms, or OK.
func claimError(t Terms, c Claim) api.Errno {
	return first(
		nameError(c.Athlete),
		mark.CheckMark(c.Mark),
		when(c.Mark.Kind != t.Kind, api.ErrKind),
		dayError(c.Day),
		rangeError(c.Wind, -api.MaxWind, api.MaxWind),
		when(c.Ratified != never, rangeError(c.Ratified, c.Day, api.MaxDay)),
		when(c.Withdrawn != never && c.Ratified == never, api.ErrState),
		when(c.Withdrawn != never, rangeError(c.Withdrawn, c.Ratified, api.MaxDay)))
}

// CheckClaims returns the first error of terms and claims, or OK.
func CheckClaims(t Terms, l []Claim) api.Errno {
	return first(
		termsError(t),
		listError(l, api.MaxList, func(_ int, c Claim) api.Errno { return claimError(t, c) }))
}

// Eligible reports whether a claim is eligible.
func Eligible(t Terms, c Claim) (bool, api.Errno) {
	if e := first(termsError(t), claimError(t, c)); e != api.OK {
		return false, e
	}
	return c.isEligible(t), api.OK
}

func (c Claim) isEligible(t Terms) bool {
	wind, _ := mark.Wind(c.Wind)
	return c.Day >= t.From && (t.Wind == anyWind || wind <= t.Wind)
}

func (c Claim) isRatified(today int) bool {
	return c.Ratified != never && c.Ratified <= today
}

func (c Claim) stands(t Terms, today int) bool {
	withdrawn := c.Withdrawn != never && c.Withdrawn <= today
	return c.isEligible(t) && c.isRatified(today) && !withdrawn
}

// records goes through the days with claims that stand today, in ascending order, and the records of these days.
func records(t Terms, l []Claim, today int) iter.Seq2[int, []int] {
	claims := map[int][]int{}
	for i, c := range l {
		if c.stands(t, today) {
			claims[c.Day] = append(claims[c.Day], i)
		}
	}
	return func(yield func(day int, record []int) bool) {
		var record []int
		for _, day := range slices.Sorted(maps.Keys(claims)) {
			record = best(l, slices.Concat(record, claims[day]))
			if !yield(day, record) {
				return
			}
		}
	}
}

// best returns those of some claims than which no other one has a better mark, in ascending order.
func best(l []Claim, numbers []int) []int {
	ranks, _ := mark.Ranks(each(numbers, func(i int) api.Mark { return l[i].Mark }))
	var list []int
	for place, rank := range ranks {
		if rank == 1 {
			list = append(list, numbers[place])
		}
	}
	slices.Sort(list)
	return list
}

// recordOf returns the record of a day, as known today.
func recordOf(t Terms, l []Claim, day, today int) []int {
	var last []int
	for from, record := range records(t, l, today) {
		if from > day {
			break
		}
		last = record
	}
	return last
}

// Record returns the claims that are the record of a day, as known today.
func Record(t Terms, l []Claim, day, today int) ([]int, api.Errno) {
	if e := first(CheckClaims(t, l), dayError(day), dayError(today), when(day > today, api.ErrOrder)); e != api.OK {
		return nil, e
	}
	record := recordOf(t, l, day, today)
	return record, when(len(record) == 0, api.ErrNone)
}

// History returns the days with new records, as known today.
func History(t Terms, l []Claim, today int) ([]Change, api.Errno) {
	if e := first(CheckClaims(t, l), dayError(today)); e != api.OK {
		return nil, e
	}
	var changes []Change
	for day, record := range records(t, l, today) {
		claims := those(record, func(i int) bool { return l[i].Day == day })
		if len(claims) > 0 {
			changes = append(changes, Change{day, claims})
		}
	}
	return changes, api.OK
}

// Pending returns the claims that would be records.
func Pending(t Terms, l []Claim, today int) ([]int, api.Errno) {
	if e := first(CheckClaims(t, l), dayError(today)); e != api.OK {
		return nil, e
	}
	var numbers []int
	for i, c := range l {
		if c.isEligible(t) && c.Day <= today && !c.isRatified(today) && isAsGood(l, c, recordOf(t, l, c.Day, today)) {
			numbers = append(numbers, i)
		}
	}
	return numbers, api.OK
}

// isAsGood reports whether no claim of a record has a better mark than a claim.
func isAsGood(l []Claim, c Claim, record []int) bool {
	return !slices.ContainsFunc(record, func(i int) bool {
		order, _ := mark.Compare(l[i].Mark, c.Mark)
		return order < 0
	})
}

// Held returns the number of days on which an athlete held the record.
func Held(t Terms, l []Claim, athlete string, today int) (int, api.Errno) {
	if e := first(CheckClaims(t, l), nameError(athlete), dayError(today)); e != api.OK {
		return 0, e
	}
	days, since, holds := 0, 0, false
	for day, record := range records(t, l, today) {
		if holds {
			days += day - since
		}
		since, holds = day, slices.ContainsFunc(record, func(i int) bool { return l[i].Athlete == athlete })
	}
	if holds {
		days += today + 1 - since
	}
	return days, api.OK
}
