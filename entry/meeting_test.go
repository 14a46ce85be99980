package entry

import (
	"math"
	"strings"
	"testing"

	"stadion/api"
)

func TestCheckMeeting(t *testing.T) {
	for _, x := range []struct {
		what   string
		change func(m *Meeting)
		want   api.Errno
	}{
		{"the example", func(m *Meeting) {}, api.OK},
		{"the zero value", func(m *Meeting) { *m = Meeting{} }, api.OK},
		{"the last day", func(m *Meeting) { *m = Meeting{Day: 99999, Opens: 99999, Closes: 99999} }, api.OK},
		{"the day too low", func(m *Meeting) { m.Day = -1 }, api.ErrRange},
		{"the day too high", func(m *Meeting) { m.Day = 100000 }, api.ErrRange},
		{"Opens too low", func(m *Meeting) { m.Opens = -1 }, api.ErrRange},
		{"Opens too high", func(m *Meeting) { m.Opens = 100000 }, api.ErrRange},
		{"Closes too low", func(m *Meeting) { m.Closes = math.MinInt }, api.ErrRange},
		{"Closes too high", func(m *Meeting) { m.Closes = 100000 }, api.ErrRange},
		{"one day for entries", func(m *Meeting) { m.Opens = 7990 }, api.OK},
		{"entries until the day of the meeting", func(m *Meeting) { m.Closes = 8000 }, api.OK},
		{"Opens after Closes", func(m *Meeting) { m.Opens = 7991 }, api.ErrOrder},
		{"Closes after the day", func(m *Meeting) { m.Closes = 8001 }, api.ErrOrder},
		{"the least limit", func(m *Meeting) { m.Limit = 0 }, api.OK},
		{"the greatest limit", func(m *Meeting) { m.Limit = 32 }, api.OK},
		{"the limit too low", func(m *Meeting) { m.Limit = -1 }, api.ErrRange},
		{"the limit too high", func(m *Meeting) { m.Limit = 33 }, api.ErrRange},
		{"no contest", func(m *Meeting) { m.Contests = nil }, api.OK},
		{"32 contests", func(m *Meeting) { m.Contests = contests(32) }, api.OK},
		{"33 contests", func(m *Meeting) { m.Contests = contests(33) }, api.ErrMany},
	} {
		m := exampleMeeting()
		x.change(&m)
		check(t, x.what, CheckMeeting(m), x.want)
	}
}

// contests returns as many contests with different names.
func contests(n int) []Contest {
	l := make([]Contest, n)
	for i, name := range numbered(n) {
		l[i] = Contest{Name: name, Kind: "points", Standard: noMark("NM")}
	}
	return l
}

func TestCheckContest(t *testing.T) {
	for _, x := range []struct {
		what   string
		change func(c *Contest)
		want   api.Errno
	}{
		{"no name", func(c *Contest) { c.Name = "" }, api.ErrName},
		{"a wrong name", func(c *Contest) { c.Name = "100m" }, api.ErrName},
		{"a name of 24 bytes", func(c *Contest) { c.Name = strings.Repeat("a", 24) }, api.OK},
		{"a name of 25 bytes", func(c *Contest) { c.Name = strings.Repeat("a", 25) }, api.ErrName},
		{"the name of the first contest", func(c *Contest) { c.Name = "sprint" }, api.ErrTwice},
		{"another letter case", func(c *Contest) { c.Name = "Sprint" }, api.OK},
		{"the name of the last contest, which has the error", func(c *Contest) { c.Name = "relay" }, api.ErrTwice},
		{"no kind", func(c *Contest) { c.Kind = "" }, api.ErrKind},
		{"the kind none", func(c *Contest) { c.Kind = "none" }, api.ErrKind},
		{"times", func(c *Contest) { c.Kind = "time" }, api.OK},
		{"lengths", func(c *Contest) { c.Kind = "length" }, api.OK},
		{"points", func(c *Contest) { c.Kind = "points" }, api.OK},
		{"a category", func(c *Contest) { c.Category = "men" }, api.OK},
		{"a wrong category", func(c *Contest) { c.Category = "u 18" }, api.ErrName},
		{"the least and the greatest age", func(c *Contest) { c.Least, c.Most = 0, 120 }, api.OK},
		{"one age", func(c *Contest) { c.Least, c.Most = 18, 18 }, api.OK},
		{"Least too low", func(c *Contest) { c.Least = -1 }, api.ErrRange},
		{"Least too high", func(c *Contest) { c.Least = 121 }, api.ErrRange},
		{"Most too low", func(c *Contest) { c.Most = -1 }, api.ErrRange},
		{"Most too high", func(c *Contest) { c.Most = 121 }, api.ErrRange},
		{"Least above Most", func(c *Contest) { c.Least = 41 }, api.ErrOrder},
		{"no places", func(c *Contest) { c.Places, c.PerClub, c.Team = 0, 0, 0 }, api.OK},
		{"the most of all", func(c *Contest) { c.Places, c.PerClub, c.Team = 160, 160, 8 }, api.OK},
		{"Places too low", func(c *Contest) { c.Places = -1 }, api.ErrRange},
		{"Places too high", func(c *Contest) { c.Places = 161 }, api.ErrRange},
		{"PerClub too low", func(c *Contest) { c.PerClub = -1 }, api.ErrRange},
		{"PerClub too high", func(c *Contest) { c.PerClub = 161 }, api.ErrRange},
		{"Team too low", func(c *Contest) { c.Team = -1 }, api.ErrRange},
		{"Team too high", func(c *Contest) { c.Team = 9 }, api.ErrRange},
		{"a standard", func(c *Contest) { c.Standard = lengthOf(5000) }, api.OK},
		{"the zero value as a standard", func(c *Contest) { c.Standard = api.Mark{} }, api.ErrKind},
		{"a standard with a reason", func(c *Contest) { c.Standard = api.Mark{Kind: "length", Reason: "NM"} }, api.ErrForm},
		{"a standard out of range", func(c *Contest) { c.Standard = lengthOf(-1) }, api.ErrRange},
		{"a standard of another kind", func(c *Contest) { c.Standard = timeOf(120000) }, api.ErrKind},
		{"a standard of another kind out of range", func(c *Contest) { c.Standard = timeOf(0) }, api.ErrRange},
	} {
		m := exampleMeeting()
		x.change(&m.Contests[1])
		check(t, x.what, CheckMeeting(m), x.want)
	}
}

func TestErrorsOfMeetingInOrder(t *testing.T) {
	m := Meeting{Day: -1, Opens: -1, Closes: 100000, Limit: 33, Contests: make([]Contest, 33)}
	climb(t, "a meeting", m, CheckMeeting,
		rung[Meeting]{api.ErrRange, func(m *Meeting) { m.Day = 10 }},
		rung[Meeting]{api.ErrRange, func(m *Meeting) { m.Opens = 10 }},
		rung[Meeting]{api.ErrRange, func(m *Meeting) { m.Closes = 9 }},
		rung[Meeting]{api.ErrOrder, func(m *Meeting) { m.Opens = 9 }},
		rung[Meeting]{api.ErrRange, func(m *Meeting) { m.Limit = 1 }},
		rung[Meeting]{api.ErrMany, func(m *Meeting) { m.Contests = m.Contests[:1] }},
		rung[Meeting]{api.ErrName, func(m *Meeting) { m.Contests = contests(1) }},
	)
	climb(t, "a contest", Contest{Category: "-", Least: 121, Most: -1, Places: 161, PerClub: 161, Team: 9},
		func(c Contest) api.Errno {
			m := exampleMeeting()
			m.Contests[1] = c
			m.Contests[2].Name = map[bool]string{true: "relay"}[c.Standard == lengthOf(1)] // a later error until the end
			return CheckMeeting(m)
		},
		rung[Contest]{api.ErrName, func(c *Contest) { c.Name = "sprint" }},
		rung[Contest]{api.ErrTwice, func(c *Contest) { c.Name = "jump" }},
		rung[Contest]{api.ErrKind, func(c *Contest) { c.Kind = "length" }},
		rung[Contest]{api.ErrName, func(c *Contest) { c.Category = "" }},
		rung[Contest]{api.ErrRange, func(c *Contest) { c.Least = 20 }},
		rung[Contest]{api.ErrRange, func(c *Contest) { c.Most = 19 }},
		rung[Contest]{api.ErrOrder, func(c *Contest) { c.Most = 20 }},
		rung[Contest]{api.ErrRange, func(c *Contest) { c.Places = 1 }},
		rung[Contest]{api.ErrRange, func(c *Contest) { c.PerClub = 1 }},
		rung[Contest]{api.ErrRange, func(c *Contest) { c.Team = 1 }},
		rung[Contest]{api.ErrKind, func(c *Contest) { c.Standard = timeOf(0) }},
		rung[Contest]{api.ErrRange, func(c *Contest) { c.Standard = timeOf(1) }},
		rung[Contest]{api.ErrKind, func(c *Contest) { c.Standard = lengthOf(1) }},
	)
}
