package entry

import (
	"slices"

	"stadion/api"
	"stadion/mark"
)

const (
	maxAge  = 120
	maxTeam = 8
)

// kindNone is the kind of marks of those who have achieved nothing.
const kindNone = "none"

// CheckMeeting returns the first error of a meeting, or OK.
func CheckMeeting(m Meeting) api.Errno {
	e := first(
		dayError(m.Day),
		dayError(m.Opens),
		dayError(m.Closes),
		when(m.Opens > m.Closes || m.Closes > m.Day, api.ErrOrder),
		rangeError(m.Limit, MaxContests),
		when(len(m.Contests) > MaxContests, api.ErrMany),
	)
	if e != api.OK {
		return e
	}
	return firstOf(m.Contests, contestError)
}

func contestError(before []Contest, c Contest) api.Errno {
	_, twice := findContest(before, c.Name)
	return first(
		nameError(c.Name),
		when(twice, api.ErrTwice),
		when(!slices.Contains([]string{"time", "length", "points"}, c.Kind), api.ErrKind),
		when(c.Category != "" && !mark.IsName(c.Category), api.ErrName),
		rangeError(c.Least, maxAge),
		rangeError(c.Most, maxAge),
		when(c.Least > c.Most, api.ErrOrder),
		rangeError(c.Places, api.MaxAthletes),
		rangeError(c.PerClub, api.MaxAthletes),
		rangeError(c.Team, maxTeam),
		markError(c, c.Standard),
	)
}

// markError returns the error of a mark, or of its kind in a contest.
func markError(c Contest, m api.Mark) api.Errno {
	return first(mark.CheckMark(m), when(!suits(c, m), api.ErrKind))
}

// suits reports whether a mark is of the kind of a contest, or of the kind none.
func suits(c Contest, m api.Mark) bool {
	return m.Kind == c.Kind || m.Kind == kindNone
}

func findContest(l []Contest, name string) (Contest, bool) {
	return find(l, func(c Contest) bool { return c.Name == name })
}

func isRelay(c Contest) bool {
	return c.Team > 0
}
