package entry

import (
	"slices"

	"stadion/api"
	"stadion/mark"
)

// Legal returns OK for an act that is legal.
func Legal(m Meeting, s State, a Act) api.Errno {
	if e := first(CheckState(m, s), CheckAct(a)); e != api.OK {
		return e
	}
	return kinds()[a.Kind].legal(m, s, a)
}

func legalClub(_ Meeting, s State, a Act) api.Errno {
	return when(slices.Contains(s.Clubs, a.Club), api.ErrTwice)
}

func legalAthlete(_ Meeting, s State, a Act) api.Errno {
	_, twice := findAthlete(s.Athletes, a.Athlete)
	return first(
		when(!slices.Contains(s.Clubs, a.Club), api.ErrUnknown),
		when(twice, api.ErrTwice),
		when(a.From > a.Day, api.ErrRange),
	)
}

func legalLicence(_ Meeting, s State, a Act) api.Errno {
	_, known := findAthlete(s.Athletes, a.Athlete)
	return when(!known, api.ErrUnknown)
}

func legalTransfer(_ Meeting, s State, a Act) api.Errno {
	athlete, known := findAthlete(s.Athletes, a.Athlete)
	return first(
		when(!known || !slices.Contains(s.Clubs, a.Club), api.ErrUnknown),
		when(athlete.Club == a.Club, api.ErrTwice),
		when(countEntries(s, a.Athlete) > 0, api.ErrState),
	)
}

func legalEnter(m Meeting, s State, a Act) api.Errno {
	athlete, known := findAthlete(s.Athletes, a.Athlete)
	c, held := findContest(m.Contests, a.Contest)
	return first(
		when(!known || !held, api.ErrUnknown),
		when(isRelay(c), api.ErrKind),
		when(a.Day < m.Opens || a.Day > m.Closes, api.ErrState),
		when(placeOfEntry(s.Entries, a.Athlete, a.Contest) >= 0, api.ErrTwice),
		eligibility(m, s, athlete, c),
		standardError(c, a.Mark),
		when(countEntries(s, a.Athlete) >= m.Limit, api.ErrMany),
	)
}

// standardError returns the error of a mark that does not suit a contest, or is not good enough for it.
func standardError(c Contest, m api.Mark) api.Errno {
	order, _ := mark.Compare(m, c.Standard) // no mark is worse than one of the kind none, which is no standard
	return when(!suits(c, m) || order > 0, api.ErrStandard)
}

func legalWithdraw(m Meeting, s State, a Act) api.Errno {
	return first(
		when(placeOfEntry(s.Entries, a.Athlete, a.Contest) < 0, api.ErrUnknown),
		when(a.Day > m.Day, api.ErrOver),
	)
}

func legalCheck(m Meeting, s State, a Act) api.Errno {
	x, known := find(s.Entries, func(x Entry) bool { return x.Athlete == a.Athlete && x.Contest == a.Contest })
	return first(
		when(!known, api.ErrUnknown),
		when(x.Checked, api.ErrTwice),
		when(a.Day != m.Day, api.ErrState),
	)
}

func legalTeam(m Meeting, s State, a Act) api.Errno {
	c, held := findContest(m.Contests, a.Contest)
	return first(
		when(!held || !slices.Contains(s.Clubs, a.Club), api.ErrUnknown),
		when(!isRelay(c), api.ErrKind),
		when(a.Day > m.Day, api.ErrOver),
		when(len(a.Names) != c.Team, api.ErrShape),
		firstOf(a.Names, func(before []string, name string) api.Errno {
			athlete, known := findAthlete(s.Athletes, name)
			return first(
				when(!known, api.ErrUnknown),
				when(athlete.Club != a.Club, api.ErrRule),
				when(slices.Contains(before, name), api.ErrTwice),
				eligibility(m, s, athlete, c),
			)
		}),
	)
}

// countEntries returns how many entries an athlete has.
func countEntries(s State, athlete string) int {
	count := 0
	for _, x := range s.Entries {
		if x.Athlete == athlete {
			count++
		}
	}
	return count
}
