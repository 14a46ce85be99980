package track

import (
	"cmp"
	"maps"
	"slices"

	"stadion/api"
	"stadion/mark"
)

const maxReserves = 16

// CheckTeam returns the first error of a team, or OK.
func CheckTeam(r Relay, team []string) api.Errno {
	if e := first(CheckRelay(r), when(len(team) != len(r.Legs), api.ErrShape)); e != api.OK {
		return e
	}
	return namesError(team)
}

// namesError returns the error of the first name with one.
func namesError(l []string) api.Errno {
	_, e := firstOf(l, func(i int, name string) api.Errno {
		return first(when(!mark.IsName(name), api.ErrName), when(slices.Contains(l[:i], name), api.ErrTwice))
	})
	return e
}

// CheckTeams returns the first error of the teams of all rounds, and its team.
func CheckTeams(r Relay, teams [][]string, reserves []string) (int, api.Errno) {
	e := first(
		CheckRelay(r),
		when(len(teams) == 0, api.ErrEmpty),
		when(len(teams) > MaxLegs, api.ErrMany),
		when(len(reserves) > maxReserves, api.ErrMany))
	if e != api.OK {
		return 0, e
	}
	if e := namesError(reserves); e != api.OK {
		return 0, e
	}
	substitutes := map[string]bool{}
	return firstOf(teams, func(_ int, team []string) api.Errno {
		if e := CheckTeam(r, team); e != api.OK {
			return e
		}
		return changeError(teams[0], reserves, team, substitutes)
	})
}

// changeError returns the error of a team that may differ from the first one, and adds to the substitutes.
func changeError(firstTeam, reserves, team []string, substitutes map[string]bool) api.Errno {
	for _, name := range team {
		if slices.Contains(firstTeam, name) {
			continue
		}
		if !slices.Contains(reserves, name) {
			return api.ErrUnknown
		}
		substitutes[name] = true
	}
	return when(len(substitutes) > Substitutes, api.ErrRule)
}

// Members returns all who are in one of the teams.
func Members(r Relay, teams [][]string, reserves []string) ([]string, api.Errno) {
	if _, e := CheckTeams(r, teams, reserves); e != api.OK {
		return nil, e
	}
	members := map[string]bool{}
	for _, team := range teams {
		for _, name := range team {
			members[name] = true
		}
	}
	return sortedKeys(members), api.OK
}

// sortedKeys returns the keys of a map in ascending order.
func sortedKeys[K cmp.Ordered, V any](m map[K]V) []K {
	return slices.Sorted(maps.Keys(m))
}
