package office

import (
	"cmp"
	"slices"

	"stadion/api"
	"stadion/mark"
)

// The states of sheets.
const (
	stateProvisional = "provisional"
	stateOfficial    = "official"
	stateVoid        = "void"
)

const kindNone = "none"

// disqualified returns the mark of an athlete who is struck.
func disqualified() api.Mark {
	return api.Mark{Kind: kindNone, Reason: "DQ"}
}

// CheckSheet returns the first error of a sheet, or OK.
func CheckSheet(s Sheet) api.Errno {
	return first(
		nameError(s.Race),
		rangeError(s.Version, 1, api.MaxEvents),
		when(!slices.Contains([]string{stateProvisional, stateOfficial, stateVoid}, s.State), api.ErrKind),
		when(len(s.Results) == 0, api.ErrEmpty),
		listError(s.Results, api.MaxAthletes, resultError))
}

func resultError(before []api.Result, r api.Result) api.Errno {
	return first(
		nameError(r.Athlete),
		when(placeOfResult(before, r.Athlete) >= 0, api.ErrTwice),
		mark.CheckMark(r.Mark),
		when(slices.ContainsFunc(before, func(x api.Result) bool { return areOfTwoKinds(x.Mark, r.Mark) }), api.ErrKind))
}

// areOfTwoKinds reports whether two marks cannot be compared.
func areOfTwoKinds(a, b api.Mark) bool {
	return a.Kind != b.Kind && a.Kind != kindNone && b.Kind != kindNone
}

// placeOfResult returns the place of the result of an athlete, or -1.
func placeOfResult(l []api.Result, athlete string) int {
	return slices.IndexFunc(l, func(r api.Result) bool { return r.Athlete == athlete })
}

// clone returns a sheet that shares no memory with this one.
func (s Sheet) clone() Sheet {
	s.Results = slices.Clone(s.Results)
	return s
}

// equals reports whether two sheets are the same.
func (s Sheet) equals(other Sheet) bool {
	return s.Race == other.Race && s.Version == other.Version && s.State == other.State && slices.Equal(s.Results, other.Results)
}

// ranks returns for each result of a sheet the place of its athlete, or 0.
func (s Sheet) ranks() []int {
	if s.State == stateVoid {
		return make([]int, len(s.Results))
	}
	ranks, _ := mark.Ranks(each(s.Results, func(r api.Result) api.Mark { return r.Mark }))
	return ranks
}

// Find returns the sheet of a race.
func Find(o Office, race string) (Sheet, api.Errno) {
	s, found := o.sheetOf(race)
	if e := first(CheckOffice(o), when(!found, api.ErrUnknown)); e != api.OK {
		return Sheet{}, e
	}
	return s.clone(), api.OK
}

// Places returns the places of a race.
func Places(o Office, race string) ([]Place, api.Errno) {
	s, e := Find(o, race)
	if e = first(e, when(s.State == stateVoid, api.ErrState)); e != api.OK {
		return nil, e
	}
	var places []Place
	for i, rank := range s.ranks() {
		if rank > 0 {
			places = append(places, Place{s.Results[i].Athlete, rank})
		}
	}
	slices.SortStableFunc(places, func(a, b Place) int { return cmp.Compare(a.Rank, b.Rank) })
	return places, api.OK
}

// Points returns the points of a race by a table.
func Points(o Office, race string, table []int) ([]int, api.Errno) {
	s, e := Find(o, race)
	if e = first(e, tableError(table), when(s.State == stateVoid, api.ErrState)); e != api.OK {
		return nil, e
	}
	return each(s.ranks(), func(rank int) int { return pointsOf(table, rank) }), api.OK
}

func tableError(table []int) api.Errno {
	return listError(table, api.MaxAthletes, func(_ []int, n int) api.Errno { return rangeError(n, 0, api.MaxPoints) })
}

// pointsOf returns the number of a table at a place.
func pointsOf(table []int, rank int) int {
	if rank == 0 || rank > len(table) {
		return 0
	}
	return table[rank-1]
}
