package office

import (
	"cmp"
	"slices"

	"stadion/api"
)

// CheckFollower returns the first error of a follower, or OK.
func CheckFollower(f Follower) api.Errno {
	return listError(f.Sheets, MaxSheets, func(before []Sheet, s Sheet) api.Errno {
		return first(CheckSheet(s), when(len(before) > 0 && s.Race <= before[len(before)-1].Race, api.ErrOrder))
	})
}

// Receive returns the follower after a sheet is received.
func Receive(f Follower, s Sheet) (Follower, api.Errno) {
	if e := first(CheckFollower(f), CheckSheet(s)); e != api.OK {
		return Follower{}, e
	}
	return join(f, Follower{[]Sheet{s}})
}

// Join returns a follower who has what both have.
func Join(a, b Follower) (Follower, api.Errno) {
	if e := first(CheckFollower(a), CheckFollower(b)); e != api.OK {
		return Follower{}, e
	}
	return join(a, b)
}

func join(a, b Follower) (Follower, api.Errno) {
	sheets := merged(a.Sheets, b.Sheets, compareRaces, newer)
	e := first(
		when(slices.ContainsFunc(a.Sheets, b.contradicts), api.ErrConflict),
		when(len(sheets) > MaxSheets, api.ErrMany))
	if e != api.OK {
		return Follower{}, e
	}
	return Follower{each(sheets, Sheet.clone)}, api.OK
}

func compareRaces(a, b Sheet) int {
	return cmp.Compare(a.Race, b.Race)
}

// newer returns that of two sheets of a race that is not older.
func newer(a, b Sheet) Sheet {
	if b.Version > a.Version {
		return b
	}
	return a
}

// contradicts reports whether a follower has another sheet of the race and version of a sheet.
func (f Follower) contradicts(s Sheet) bool {
	place := placeOfSheet(f.Sheets, s.Race)
	return place >= 0 && f.Sheets[place].Version == s.Version && !f.Sheets[place].equals(s)
}

// Behind returns the races in which a follower is behind.
func Behind(o Office, f Follower) ([]string, api.Errno) {
	if e := first(CheckOffice(o), CheckFollower(f)); e != api.OK {
		return nil, e
	}
	var races []string
	for _, s := range o.Sheets {
		if place := placeOfSheet(f.Sheets, s.Race); place < 0 || f.Sheets[place].Version < s.Version {
			races = append(races, s.Race)
		}
	}
	return races, api.OK
}
