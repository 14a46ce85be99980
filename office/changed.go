package office

import (
	"cmp"
	"maps"
	"slices"

	"stadion/api"
)

// standing is the mark of an athlete in a race, and the place, or 0.
type standing struct {
	mark api.Mark
	rank int
}

// standings returns the standing of everyone on the sheets of an office.
func standings(o Office) map[Change]standing {
	all := map[Change]standing{}
	for _, s := range o.Sheets {
		for i, rank := range s.ranks() {
			all[Change{s.Race, s.Results[i].Athlete}] = standing{s.Results[i].Mark, rank}
		}
	}
	return all
}

// Changed returns who has changed.
func Changed(a, b Office) ([]Change, api.Errno) {
	if e := first(CheckOffice(a), CheckOffice(b)); e != api.OK {
		return nil, e
	}
	before, after := standings(a), standings(b)
	everyone := maps.Clone(before)
	maps.Copy(everyone, after)
	var changes []Change
	for who := range everyone {
		if before[who] != after[who] { // a standing that is not there is none that can be there
			changes = append(changes, who)
		}
	}
	slices.SortFunc(changes, compareChanges)
	return changes, api.OK
}

func compareChanges(a, b Change) int {
	return cmp.Or(cmp.Compare(a.Race, b.Race), cmp.Compare(a.Athlete, b.Athlete))
}
