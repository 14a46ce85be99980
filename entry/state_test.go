package entry

import (
	"math"
	"testing"

	"stadion/api"
)

func TestCheckState(t *testing.T) {
	for _, x := range []struct {
		what   string
		change func(s *State)
		want   api.Errno
	}{
		{"the example", func(s *State) {}, api.OK},
		{"nothing", func(s *State) { *s = State{} }, api.OK},
		{"a club that is no name", func(s *State) { s.Clubs = append(s.Clubs, "") }, api.ErrName},
		{"a club twice", func(s *State) { s.Clubs = append(s.Clubs, "A") }, api.ErrTwice},
		{"a club less", func(s *State) { s.Clubs = s.Clubs[:1] }, api.ErrUnknown},
		{"an athlete without a name", func(s *State) { s.Athletes[0].Name = "" }, api.ErrName},
		{"an athlete twice", func(s *State) { s.Athletes[2].Name = "ann" }, api.ErrTwice},
		{"an athlete without a club", func(s *State) { s.Athletes[2].Club = "" }, api.ErrUnknown},
		{"born too early", func(s *State) { s.Athletes[2].Born = -1 }, api.ErrRange},
		{"born on the first day", func(s *State) { s.Athletes[2].Born = 0 }, api.OK},
		{"born on the last day", func(s *State) { s.Athletes[2].Born = 99999 }, api.OK},
		{"born too late", func(s *State) { s.Athletes[2].Born = 100000 }, api.ErrRange},
		{"an athlete without a category", func(s *State) { s.Athletes[2].Category = "" }, api.ErrName},
		{"a licence of nobody", func(s *State) { s.Licences[2].Athlete = "cat" }, api.ErrUnknown},
		{"two licences of an athlete", func(s *State) { s.Licences[2].Athlete = "ann" }, api.OK},
		{"From too low", func(s *State) { s.Licences[2].From = -1 }, api.ErrRange},
		{"From too high", func(s *State) { s.Licences[2].From = 100000 }, api.ErrRange},
		{"To too low", func(s *State) { s.Licences[2].To = math.MinInt }, api.ErrRange},
		{"To too high", func(s *State) { s.Licences[2].To = 100000 }, api.ErrRange},
		{"From after To", func(s *State) { s.Licences[2].From = 9001 }, api.ErrOrder},
		{"a licence of one day", func(s *State) { s.Licences[2].From = 9000 }, api.OK},
		{"an entry of nobody", func(s *State) { s.Entries[2].Athlete = "cat" }, api.ErrUnknown},
		{"an entry in no contest", func(s *State) { s.Entries[2].Contest = "" }, api.ErrUnknown},
		{"an entry in a relay", func(s *State) { s.Entries[2].Contest = "relay" }, api.ErrKind},
		{"an entry twice", func(s *State) { s.Entries[2].Athlete = "ann" }, api.ErrTwice},
		{"an entry in another contest", func(s *State) { s.Entries[2] = Entry{Athlete: "ann", Contest: "jump", Mark: lengthOf(0)} }, api.OK},
		{"an entry with a wrong mark", func(s *State) { s.Entries[2].Mark.Reason = "NM" }, api.ErrForm},
		{"an entry with a mark out of range", func(s *State) { s.Entries[2].Mark.Value = 0 }, api.ErrRange},
		{"an entry with the zero value as a mark", func(s *State) { s.Entries[2].Mark = api.Mark{} }, api.ErrKind},
		{"an entry with a mark of another kind", func(s *State) { s.Entries[2].Mark = lengthOf(1) }, api.ErrKind},
		{"an entry with a mark of the kind none", func(s *State) { s.Entries[2].Mark = noMark("DNF") }, api.OK},
		{"an entry that is worse than the standard", func(s *State) { s.Entries[2].Mark = timeOf(120001) }, api.OK},
		{"an entry on a day too low", func(s *State) { s.Entries[2].Day = -1 }, api.ErrRange},
		{"an entry on a day too high", func(s *State) { s.Entries[2].Day = 100000 }, api.ErrRange},
		{"an entry after the meeting", func(s *State) { s.Entries[2].Day = 99999 }, api.OK},
		{"a team of no club", func(s *State) { s.Teams[0].Club = "C" }, api.ErrUnknown},
		{"a team in no contest", func(s *State) { s.Teams[0].Contest = "" }, api.ErrUnknown},
		{"a team in the jump", func(s *State) { s.Teams[0].Contest = "jump" }, api.ErrKind},
		{"a team twice", func(s *State) { s.Teams = append(s.Teams, s.Teams[0]) }, api.ErrTwice},
		{"a team of another club with the same runners", func(s *State) { s.Teams = append(s.Teams, Team{"B", "relay", []string{"ann", "amy"}}) }, api.OK},
		{"a team with a runner less", func(s *State) { s.Teams[0].Runners = []string{"ann"} }, api.ErrShape},
		{"a team with a runner more", func(s *State) { s.Teams[0].Runners = []string{"ann", "amy", "bea"} }, api.ErrShape},
		{"a team with nobody", func(s *State) { s.Teams[0].Runners[1] = "cat" }, api.ErrUnknown},
		{"a team with a runner twice", func(s *State) { s.Teams[0].Runners[1] = "ann" }, api.ErrTwice},
		{"a team with a runner of another club", func(s *State) { s.Teams[0].Runners[1] = "bea" }, api.OK},
		{"no licences", func(s *State) { s.Licences = nil }, api.OK},
	} {
		s := exampleState(t, teamAct(7950, "A", "relay", "ann", "amy"))
		x.change(&s)
		check(t, x.what, CheckState(exampleMeeting(), s), x.want)
	}
	for want, m := range wrongMeetings() {
		check(t, "a wrong meeting", CheckState(m, State{Clubs: make([]string, 257)}), want)
	}
	check(t, "without contests", CheckState(Meeting{}, exampleState(t)), api.ErrUnknown)
}

// fullState returns a state, and a meeting for it, all of whose lists have as many elements.
func fullState(n int) (Meeting, State) {
	m := Meeting{Day: 8000, Limit: 32, Contests: contests(2)}
	m.Contests[1].Team = 1
	var s State
	for _, name := range numbered(n) {
		s.Clubs = append(s.Clubs, name)
		s.Athletes = append(s.Athletes, api.Athlete{Name: name, Club: "n0", Category: "women"})
		s.Licences = append(s.Licences, Licence{name, 0, 9000})
		s.Entries = append(s.Entries, Entry{Athlete: name, Contest: "n0", Mark: pointsOf(5)})
		s.Teams = append(s.Teams, Team{name, "n1", []string{name}})
	}
	return m, s
}

func TestSizeOfState(t *testing.T) {
	m, s := fullState(256)
	check(t, "256 of all", CheckState(m, s), api.OK)
	wrong := []string{""} // an error of an element, which comes later
	check(t, "257 clubs", CheckState(m, State{Clubs: repeated("", 257)}), api.ErrMany)
	check(t, "257 athletes", CheckState(m, State{Clubs: wrong, Athletes: make([]api.Athlete, 257)}), api.ErrMany)
	check(t, "257 licences", CheckState(m, State{Clubs: wrong, Licences: repeated(Licence{"n0", 0, 0}, 257)}), api.ErrMany)
	check(t, "257 entries", CheckState(m, State{Clubs: wrong, Entries: make([]Entry, 257)}), api.ErrMany)
	check(t, "257 teams", CheckState(m, State{Clubs: wrong, Teams: make([]Team, 257)}), api.ErrMany)
	check(t, "256 clubs with an error", CheckState(m, State{Clubs: repeated("", 256)}), api.ErrName)
}

func TestErrorsOfStateInOrder(t *testing.T) {
	of := func(m Meeting) func(s State) api.Errno {
		return func(s State) api.Errno { return CheckState(m, s) }
	}
	s := State{
		Clubs:    []string{"A", "A", ""},
		Athletes: []api.Athlete{{Name: "ann", Club: "A", Category: "women"}, {Born: -1}, {}},
		Licences: []Licence{{"cat", -1, -1}, {}},
		Entries:  []Entry{{Athlete: "ann", Contest: "jump", Mark: lengthOf(1)}, {Athlete: "cat", Contest: "none", Mark: timeOf(0), Day: -1}, {}},
		Teams:    []Team{{"A", "relay", []string{"ann", "amy"}}, {"C", "none", []string{"cat", "cat", "dot"}}, {}},
	}
	climb(t, "a state", s, of(exampleMeeting()),
		rung[State]{api.ErrTwice, func(s *State) { s.Clubs[1] = "B" }},
		rung[State]{api.ErrName, func(s *State) { s.Clubs = s.Clubs[:2] }},
		rung[State]{api.ErrName, func(s *State) { s.Athletes[1].Name = "ann" }},
		rung[State]{api.ErrTwice, func(s *State) { s.Athletes[1].Name = "amy" }},
		rung[State]{api.ErrUnknown, func(s *State) { s.Athletes[1].Club = "A" }},
		rung[State]{api.ErrRange, func(s *State) { s.Athletes[1].Born = 0 }},
		rung[State]{api.ErrName, func(s *State) { s.Athletes[1].Category = "women" }},
		rung[State]{api.ErrName, func(s *State) { s.Athletes = s.Athletes[:2] }},
		rung[State]{api.ErrUnknown, func(s *State) { s.Licences[0].Athlete = "ann" }},
		rung[State]{api.ErrRange, func(s *State) { s.Licences[0].From = 1 }},
		rung[State]{api.ErrRange, func(s *State) { s.Licences[0].To = 0 }},
		rung[State]{api.ErrOrder, func(s *State) { s.Licences[0].To = 1 }},
		rung[State]{api.ErrUnknown, func(s *State) { s.Licences = s.Licences[:1] }},
		rung[State]{api.ErrUnknown, func(s *State) { s.Entries[1].Athlete = "ann" }},
		rung[State]{api.ErrUnknown, func(s *State) { s.Entries[1].Contest = "relay" }},
		rung[State]{api.ErrKind, func(s *State) { s.Entries[1].Contest = "jump" }},
		rung[State]{api.ErrTwice, func(s *State) { s.Entries[1].Athlete = "amy" }},
		rung[State]{api.ErrRange, func(s *State) { s.Entries[1].Mark = timeOf(1) }},
		rung[State]{api.ErrKind, func(s *State) { s.Entries[1].Mark = lengthOf(1) }},
		rung[State]{api.ErrRange, func(s *State) { s.Entries[1].Day = 0 }},
		rung[State]{api.ErrUnknown, func(s *State) { s.Entries = s.Entries[:2] }},
		rung[State]{api.ErrUnknown, func(s *State) { s.Teams[1].Club = "A" }},
		rung[State]{api.ErrUnknown, func(s *State) { s.Teams[1].Contest = "sprint" }},
		rung[State]{api.ErrKind, func(s *State) { s.Teams[1].Contest = "relay" }},
		rung[State]{api.ErrTwice, func(s *State) { s.Teams[1].Club = "B" }},
		rung[State]{api.ErrShape, func(s *State) { s.Teams[1].Runners = []string{"cat", "cat"} }},
		rung[State]{api.ErrUnknown, func(s *State) { s.Teams[1].Runners = []string{"ann", "ann"} }},
		rung[State]{api.ErrTwice, func(s *State) { s.Teams[1].Runners = []string{"ann", "amy"} }},
		rung[State]{api.ErrUnknown, func(s *State) { s.Teams = s.Teams[:2] }},
	)
	runners := State{Clubs: []string{"A"}, Athletes: []api.Athlete{{Name: "ann", Club: "A", Category: "women"}}}
	runners.Teams = []Team{{"A", "relay", []string{"ann", "ann"}}}
	check(t, "a runner twice ahead of none", CheckState(exampleMeeting(), runners), api.ErrTwice)
}
