package field

import (
	"cmp"
	"slices"

	"stadion/api"
)

// CheckRows returns the first error of rows, or OK.
func CheckRows(l []Row) api.Errno {
	names := each(l, func(r Row) string { return r.Athlete })
	return listError(l, MaxField, func(place int, r Row) api.Errno {
		return first(newNameError(names[:place], r.Athlete), listError(r.Trials, api.MaxTrials, trialError))
	})
}

func trialError(_ int, n int) api.Errno {
	return rangeError(n, Pass, api.MaxLength)
}

// series returns the marks of a row in descending order.
func series(r Row) []int {
	var l []int
	for _, n := range r.Trials {
		if n >= 0 {
			l = append(l, n)
		}
	}
	slices.SortFunc(l, func(a, b int) int { return b - a })
	return l
}

func rowRanks(l []Row) []int {
	all := each(l, series)
	return ranks(len(all),
		func(i int) bool { return len(all[i]) > 0 },
		func(i, j int) bool { return slices.Compare(all[i], all[j]) > 0 })
}

// ranks returns for each of so many athletes 1 and the number of those who are better, or 0 for one who is not ranked.
func ranks(athletes int, ranked func(i int) bool, better func(i, j int) bool) []int {
	l := make([]int, athletes)
	for i := range l {
		if !ranked(i) {
			continue
		}
		l[i] = 1
		for j := range l {
			if better(j, i) {
				l[i]++
			}
		}
	}
	return l
}

// arranged returns places in the order of their ranks, those without a rank at last.
func arranged(l []Place) []Place {
	behind := func(p Place) int {
		if p.Rank == 0 {
			return len(l) + 1
		}
		return p.Rank
	}
	return slices.SortedStableFunc(slices.Values(l), func(a, b Place) int { return cmp.Compare(behind(a), behind(b)) })
}

// noMark returns the mark of an athlete without one.
func noMark(started bool) api.Mark {
	if started {
		return api.Mark{Kind: kindNone, Reason: "NM"}
	}
	return api.Mark{Kind: kindNone, Reason: "DNS"}
}

func rowMark(r Row) api.Mark {
	l := series(r)
	if len(l) == 0 {
		return noMark(len(r.Trials) > 0 || !r.Retired)
	}
	return api.Mark{Kind: kindLength, Value: l[0]}
}

// Ranking returns the places of rows.
func Ranking(l []Row) ([]Place, api.Errno) {
	if e := CheckRows(l); e != api.OK {
		return nil, e
	}
	var places []Place
	for i, rank := range rowRanks(l) {
		places = append(places, Place{Athlete: l[i].Athlete, Rank: rank, Mark: rowMark(l[i])})
	}
	return arranged(places), api.OK
}

// Results returns the results of rows.
func Results(l []Row) ([]api.Result, api.Errno) {
	places, e := Ranking(l)
	return each(places, func(p Place) api.Result { return api.Result{Athlete: p.Athlete, Mark: p.Mark} }), e
}

// Finalists returns the athletes who have more trials, in their order.
func Finalists(c Contest, l []Row) ([]string, api.Errno) {
	names := each(l, func(r Row) string { return r.Athlete })
	e := first(
		CheckContest(c),
		CheckRows(l),
		when(len(l) != len(c.Athletes), api.ErrShape),
		when(!slices.Equal(names, c.Athletes), api.ErrUnknown),
		when(c.More == 0, api.ErrNone))
	if e != api.OK {
		return nil, e
	}
	return each(finalists(c, l), func(i int) string { return c.Athletes[i] }), api.OK
}
