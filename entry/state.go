package entry

import (
	"slices"

	"stadion/api"
)

// CheckState returns the first error of a state, or OK.
func CheckState(m Meeting, s State) api.Errno {
	if e := first(CheckMeeting(m), sizeError(s)); e != api.OK {
		return e
	}
	return first(
		firstOf(s.Clubs, clubError),
		firstOf(s.Athletes, func(before []api.Athlete, a api.Athlete) api.Errno { return athleteError(s, before, a) }),
		firstOf(s.Licences, func(_ []Licence, l Licence) api.Errno { return licenceError(s, l) }),
		firstOf(s.Entries, func(before []Entry, x Entry) api.Errno { return entryError(m, s, before, x) }),
		firstOf(s.Teams, func(before []Team, t Team) api.Errno { return teamError(m, s, before, t) }),
	)
}

// sizeError returns the error of a state with a list that is too long.
func sizeError(s State) api.Errno {
	longest := max(len(s.Clubs), len(s.Athletes), len(s.Licences), len(s.Entries), len(s.Teams))
	return when(longest > MaxActs, api.ErrMany)
}

func clubError(before []string, club string) api.Errno {
	return first(nameError(club), when(slices.Contains(before, club), api.ErrTwice))
}

func athleteError(s State, before []api.Athlete, a api.Athlete) api.Errno {
	_, twice := findAthlete(before, a.Name)
	return first(
		nameError(a.Name),
		when(twice, api.ErrTwice),
		when(!slices.Contains(s.Clubs, a.Club), api.ErrUnknown),
		dayError(a.Born),
		nameError(a.Category),
	)
}

func licenceError(s State, l Licence) api.Errno {
	_, known := findAthlete(s.Athletes, l.Athlete)
	return first(when(!known, api.ErrUnknown), periodError(l.From, l.To))
}

func entryError(m Meeting, s State, before []Entry, x Entry) api.Errno {
	_, known := findAthlete(s.Athletes, x.Athlete)
	c, held := findContest(m.Contests, x.Contest)
	return first(
		when(!known || !held, api.ErrUnknown),
		when(isRelay(c), api.ErrKind),
		when(placeOfEntry(before, x.Athlete, x.Contest) >= 0, api.ErrTwice),
		markError(c, x.Mark),
		dayError(x.Day),
	)
}

func teamError(m Meeting, s State, before []Team, t Team) api.Errno {
	c, held := findContest(m.Contests, t.Contest)
	e := first(
		when(!held || !slices.Contains(s.Clubs, t.Club), api.ErrUnknown),
		when(!isRelay(c), api.ErrKind),
		when(placeOfTeam(before, t.Club, t.Contest) >= 0, api.ErrTwice),
		when(len(t.Runners) != c.Team, api.ErrShape),
	)
	if e != api.OK {
		return e
	}
	return firstOf(t.Runners, func(before []string, name string) api.Errno {
		_, known := findAthlete(s.Athletes, name)
		return first(when(!known, api.ErrUnknown), when(slices.Contains(before, name), api.ErrTwice))
	})
}

// placeOfEntry returns the place of the entry of an athlete in a contest, or -1.
func placeOfEntry(l []Entry, athlete, contest string) int {
	return slices.IndexFunc(l, func(x Entry) bool { return x.Athlete == athlete && x.Contest == contest })
}

// placeOfTeam returns the place of the team of a club in a contest, or -1.
func placeOfTeam(l []Team, club, contest string) int {
	return slices.IndexFunc(l, func(t Team) bool { return t.Club == club && t.Contest == contest })
}
