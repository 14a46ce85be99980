package score

import (
	"cmp"
	"maps"
	"slices"

	"stadion/api"
)

// CheckPerformances returns the first error of performances, or OK.
func CheckPerformances(l []Performance) api.Errno {
	return listError(l, api.MaxEvents, func(_ int, p Performance) api.Errno {
		return first(nameError(p.Athlete), dayError(p.Day), pointsError(p.Points), pointsError(p.Bonus))
	})
}

func ruleError(r Rule) api.Errno {
	return first(rangeError(r.Window, 1, api.MaxDay), rangeError(r.Count, 1, MaxCount))
}

func (p Performance) worth() int {
	return p.Points + p.Bonus
}

// entry is a performance with its number.
type entry struct {
	Performance
	number int
}

// entriesOf returns the performances of each athlete, in the order of their numbers.
func entriesOf(l []Performance) map[string][]entry {
	entries := map[string][]entry{}
	for i, p := range l {
		entries[p.Athlete] = append(entries[p.Athlete], entry{p, i})
	}
	return entries
}

// counting returns those of the performances of an athlete that count on a day, those with the greatest worth first.
func (r Rule) counting(l []entry, day int) []entry {
	window := those(l, func(x entry) bool { return day-r.Window < x.Day && x.Day <= day })
	// A stable sort leaves equal ones of one day in their order.
	slices.SortStableFunc(window, func(a, b entry) int {
		return cmp.Or(cmp.Compare(b.worth(), a.worth()), cmp.Compare(b.Day, a.Day))
	})
	return window[:min(len(window), r.Count)]
}

func worths(l []entry) []int {
	return each(l, entry.worth)
}

// Best returns the score of an athlete, and the numbers of the performances that count.
func Best(l []Performance, r Rule, athlete string, day int) (int, []int, api.Errno) {
	if e := first(CheckPerformances(l), ruleError(r), nameError(athlete), dayError(day)); e != api.OK {
		return 0, nil, e
	}
	chosen := r.counting(entriesOf(l)[athlete], day)
	if len(chosen) == 0 {
		return 0, nil, api.ErrNone
	}
	numbers := each(chosen, func(x entry) int { return x.number })
	slices.Sort(numbers)
	return sum(worths(chosen)), numbers, api.OK
}

// Ranking returns the standings of a day.
func Ranking(l []Performance, r Rule, day int) ([]Standing, api.Errno) {
	if e := first(CheckPerformances(l), ruleError(r), dayError(day)); e != api.OK {
		return nil, e
	}
	entries := entriesOf(l)
	var standings []Standing
	var strengths [][]int
	for _, athlete := range slices.Sorted(maps.Keys(entries)) {
		chosen := worths(r.counting(entries[athlete], day))
		if len(chosen) == 0 {
			continue
		}
		score := sum(chosen)
		standings = append(standings, Standing{Athlete: athlete, Score: score})
		strengths = append(strengths, append([]int{score}, chosen...))
	}
	for i, rank := range ranks(strengths) {
		standings[i].Rank = rank
	}
	slices.SortStableFunc(standings, func(a, b Standing) int { return cmp.Compare(a.Rank, b.Rank) })
	return standings, api.OK
}

// Expires returns the first day after a day on which the score of an athlete is another one.
func Expires(l []Performance, r Rule, athlete string, day int) (int, api.Errno) {
	now, _, e := Best(l, r, athlete, day)
	if e != api.OK {
		return 0, e
	}
	known := those(entriesOf(l)[athlete], func(x entry) bool { return x.Day <= day })
	ends := each(known, func(x entry) int { return x.Day + r.Window })
	slices.Sort(ends)
	// The score changes only where a performance leaves the window.
	for _, end := range ends {
		if end > day && sum(worths(r.counting(known, end))) != now {
			return end, api.OK
		}
	}
	return 0, api.ErrNone
}
