package entry

import (
	"slices"

	"stadion/api"
)

// place is the place of an athlete in the list of a contest.
type place int

const (
	placeNone place = iota
	placeAccepted
	placeReserve
)

// Changed returns whose place in a list is not the same after two lists of acts.
func Changed(m Meeting, a, b []Act, contest string) ([]string, api.Errno) {
	c, held := findContest(m.Contests, contest)
	e := first(
		CheckMeeting(m),
		actsError(a),
		actsError(b),
		when(!held, api.ErrUnknown),
		when(isRelay(c), api.ErrKind),
	)
	if e != api.OK {
		return nil, e
	}
	return changes(places(m, a, c), places(m, b, c)), api.OK
}

// places returns the places of those in the list of a contest after acts.
func places(m Meeting, l []Act, c Contest) map[string]place {
	s, _ := replay(m, l)
	accepted, reserves := divide(s, c, listOf(s, c.Name))
	all := map[string]place{}
	for _, name := range accepted {
		all[name] = placeAccepted
	}
	for _, name := range reserves {
		all[name] = placeReserve
	}
	return all
}

// changes returns in ascending order whose place is not the same.
func changes(a, b map[string]place) []string {
	var names []string
	for name, x := range a {
		if b[name] != x {
			names = append(names, name)
		}
	}
	for name := range b {
		if a[name] == placeNone {
			names = append(names, name)
		}
	}
	slices.Sort(names)
	return names
}
