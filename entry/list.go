package entry

import (
	"cmp"
	"slices"

	"stadion/api"
	"stadion/mark"
)

// List returns the list of a contest.
func List(m Meeting, s State, contest string) ([]Entry, api.Errno) {
	_, e := contestIn(m, s, contest, false)
	if e != api.OK {
		return nil, e
	}
	return listOf(s, contest), api.OK
}

// Accepted returns who is accepted.
func Accepted(m Meeting, s State, contest string) ([]string, api.Errno) {
	accepted, _, e := divided(m, s, contest, isAny)
	return accepted, e
}

// Reserves returns the reserves.
func Reserves(m Meeting, s State, contest string) ([]string, api.Errno) {
	_, reserves, e := divided(m, s, contest, isAny)
	return reserves, e
}

// Starters returns the starters.
func Starters(m Meeting, s State, contest string) ([]string, api.Errno) {
	starters, _, e := divided(m, s, contest, isChecked)
	return starters, e
}

func isAny(Entry) bool {
	return true
}

func isChecked(x Entry) bool {
	return x.Checked
}

// divided returns who is accepted, and the reserves, if the list of a contest is made of the entries with a property.
func divided(m Meeting, s State, contest string, has func(x Entry) bool) (accepted, reserves []string, e api.Errno) {
	c, e := contestIn(m, s, contest, false)
	if e != api.OK {
		return nil, nil, e
	}
	accepted, reserves = divide(s, c, filter(listOf(s, contest), has))
	return accepted, reserves, api.OK
}

// contestIn returns a contest, which is to be a relay or not, or the first error of the arguments.
func contestIn(m Meeting, s State, name string, relay bool) (Contest, api.Errno) {
	if e := CheckState(m, s); e != api.OK {
		return Contest{}, e
	}
	c, held := findContest(m.Contests, name)
	return c, first(when(!held, api.ErrUnknown), when(isRelay(c) != relay, api.ErrKind))
}

// listOf returns the entries of a contest, the best ones first.
func listOf(s State, contest string) []Entry {
	list := filter(s.Entries, func(x Entry) bool { return x.Contest == contest })
	slices.SortStableFunc(list, func(x, y Entry) int {
		order, _ := mark.Compare(x.Mark, y.Mark) // marks of a contest can be compared in each valid state
		return cmp.Or(order, cmp.Compare(x.Day, y.Day))
	})
	return list
}

// divide returns those along a list who are accepted, and the reserves.
func divide(s State, c Contest, list []Entry) (accepted, reserves []string) {
	taken := map[string]int{} // by clubs
	for _, x := range list {
		a, _ := findAthlete(s.Athletes, x.Athlete)
		if len(accepted) >= c.Places || taken[a.Club] >= c.PerClub {
			reserves = append(reserves, x.Athlete)
			continue
		}
		accepted = append(accepted, x.Athlete)
		taken[a.Club]++
	}
	return accepted, reserves
}
