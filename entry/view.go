package entry

import (
	"slices"

	"stadion/api"
)

// Teams returns the teams of a relay.
func Teams(m Meeting, s State, contest string) ([]Team, api.Errno) {
	_, e := contestIn(m, s, contest, true)
	if e != api.OK {
		return nil, e
	}
	return copyTeams(filter(s.Teams, func(t Team) bool { return t.Contest == contest })), api.OK
}

// Contests returns the contests of an athlete.
func Contests(m Meeting, s State, athlete string) ([]string, api.Errno) {
	_, known := findAthlete(s.Athletes, athlete)
	if e := first(CheckState(m, s), when(!known, api.ErrUnknown)); e != api.OK {
		return nil, e
	}
	var names []string
	for _, c := range m.Contests {
		if participants(s, c.Name)[athlete] {
			names = append(names, c.Name)
		}
	}
	return names, api.OK
}

// Clashes returns the contests that have an athlete in common.
func Clashes(m Meeting, s State) ([][2]string, api.Errno) {
	if e := CheckState(m, s); e != api.OK {
		return nil, e
	}
	in := make([]map[string]bool, len(m.Contests))
	var pairs [][2]string
	for i, c := range m.Contests {
		in[i] = participants(s, c.Name)
	}
	for i, c := range m.Contests {
		for k := i + 1; k < len(m.Contests); k++ {
			if haveCommon(in[i], in[k]) {
				pairs = append(pairs, [2]string{c.Name, m.Contests[k].Name})
			}
		}
	}
	return pairs, api.OK
}

// participants returns who has entered a contest, or is in a team of it.
func participants(s State, contest string) map[string]bool {
	in := map[string]bool{}
	for _, x := range s.Entries {
		if x.Contest == contest {
			in[x.Athlete] = true
		}
	}
	for _, t := range s.Teams {
		if t.Contest != contest {
			continue
		}
		for _, name := range t.Runners {
			in[name] = true
		}
	}
	return in
}

func haveCommon(a, b map[string]bool) bool {
	for name := range a {
		if b[name] {
			return true
		}
	}
	return false
}

// Clubs returns the numbers of entries of the clubs.
func Clubs(m Meeting, s State) ([]int, api.Errno) {
	if e := CheckState(m, s); e != api.OK {
		return nil, e
	}
	counts := make([]int, len(s.Clubs))
	for _, a := range s.Athletes {
		counts[slices.Index(s.Clubs, a.Club)] += countEntries(s, a.Name)
	}
	return counts, api.OK
}
