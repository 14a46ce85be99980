package entry

import (
	"testing"

	"stadion/api"
)

// relayMeeting returns the meeting of the examples with a second relay in front.
func relayMeeting() Meeting {
	m := exampleMeeting()
	m.Contests = append([]Contest{{Name: "medley", Kind: "time", Most: 120, Standard: noMark("NM"), Team: 1}}, m.Contests...)
	return m
}

// relayState returns a state for it: ann is in two teams, amy in one, and bea in none.
func relayState(t *testing.T) State {
	s := exampleState(t, enterAct(7960, "bea", "jump", noMark("NM")))
	s.Teams = []Team{{"A", "relay", []string{"amy", "ann"}}, {"A", "medley", []string{"ann"}}, {"B", "relay", []string{"bea", "amy"}}}
	return s
}

func TestTeams(t *testing.T) {
	l, e := Teams(relayMeeting(), relayState(t), "relay")
	check(t, "Teams", []any{l, e}, []any{[]Team{{"A", "relay", []string{"amy", "ann"}}, {"B", "relay", []string{"bea", "amy"}}}, api.OK})
	l, e = Teams(relayMeeting(), relayState(t), "medley")
	check(t, "Teams of another relay", []any{l, e}, []any{[]Team{{"A", "medley", []string{"ann"}}}, api.OK})
	l, e = Teams(exampleMeeting(), exampleState(t), "relay")
	check(t, "Teams of nobody", []any{l, e}, []any{[]Team{}, api.OK})
	for name, want := range map[string]api.Errno{"sprint": api.ErrKind, "jump": api.ErrKind, "throw": api.ErrUnknown, "": api.ErrUnknown} {
		l, e = Teams(relayMeeting(), relayState(t), name)
		check(t, "Teams of "+name, []any{l, e}, []any{[]Team{}, want})
	}
	checkOffice(t, "Teams", func(m Meeting, s State) (any, api.Errno) { return Teams(m, s, "sprint") })
}

func TestMemoryOfTeams(t *testing.T) {
	s := relayState(t)
	first, _ := Teams(relayMeeting(), s, "relay")
	second, _ := Teams(relayMeeting(), s, "relay")
	second[0].Runners[0] = "spoilt"
	s.Teams[2].Runners[0] = "spoilt"
	check(t, "Teams", first, []Team{{"A", "relay", []string{"amy", "ann"}}, {"B", "relay", []string{"bea", "amy"}}})
	check(t, "the state", s.Teams[0].Runners, []string{"amy", "ann"})
}

func TestContests(t *testing.T) {
	s := relayState(t)
	s.Athletes = append(s.Athletes, api.Athlete{Name: "cat", Club: "B", Category: "women"})
	for name, want := range map[string][]string{"ann": {"medley", "sprint", "relay"}, "amy": {"sprint", "relay"}, "bea": {"sprint", "jump", "relay"}, "cat": nil} {
		l, e := Contests(relayMeeting(), s, name)
		check(t, "Contests of "+name, []any{l, e}, []any{want, api.OK})
	}
	s.Entries[0], s.Entries[3] = s.Entries[3], s.Entries[0]
	l, e := Contests(relayMeeting(), s, "bea")
	check(t, "Contests in the order of the meeting", []any{l, e}, []any{[]string{"sprint", "jump", "relay"}, api.OK})
	for _, name := range []string{"", "eve", "Ann"} {
		l, e = Contests(relayMeeting(), s, name)
		check(t, "Contests of nobody", []any{l, e}, []any{[]string{}, api.ErrUnknown})
	}
	checkOffice(t, "Contests", func(m Meeting, s State) (any, api.Errno) { return Contests(m, s, "") })
}

func TestClashes(t *testing.T) {
	for _, x := range []struct {
		what string
		s    State
		want [][2]string
	}{
		{"the example", exampleState(t), nil},
		{"the example with the jump", exampleState(t, enterAct(7960, "ann", "jump", noMark("NM"))), [][2]string{{"sprint", "jump"}}},
		{"a team", exampleState(t, teamAct(7960, "A", "relay", "ann", "amy")), [][2]string{{"sprint", "relay"}}},
		{"two teams of a relay", relayState(t), [][2]string{{"medley", "sprint"}, {"medley", "relay"}, {"sprint", "jump"}, {"sprint", "relay"}, {"jump", "relay"}}},
		{"nothing", State{}, nil},
	} {
		l, e := Clashes(relayMeeting(), x.s)
		check(t, "Clashes, "+x.what, []any{l, e}, []any{x.want, api.OK})
	}
	s := exampleState(t, withdrawAct(7950, "bea", "sprint"), enterAct(7950, "bea", "jump", noMark("NM")), teamAct(7960, "A", "relay", "ann", "amy"))
	l, e := Clashes(relayMeeting(), s)
	check(t, "Clashes of one athlete alone", []any{l, e}, []any{[][2]string{{"sprint", "relay"}}, api.OK})
	checkOffice(t, "Clashes", func(m Meeting, s State) (any, api.Errno) { return Clashes(m, s) })
}

func TestClubs(t *testing.T) {
	for _, x := range []struct {
		what string
		s    State
		want []int
	}{
		{"the example", exampleState(t), []int{2, 1}},
		{"two entries of an athlete", exampleState(t, enterAct(7960, "bea", "jump", noMark("NM"))), []int{2, 2}},
		{"a withdrawal", exampleState(t, withdrawAct(7960, "bea", "sprint")), []int{2, 0}},
		{"a further club", exampleState(t, clubAct(7960, "C")), []int{2, 1, 0}},
		{"a transfer", exampleState(t, withdrawAct(7960, "amy", "sprint"), transferAct(7960, "amy", "B"), enterAct(7960, "amy", "sprint", timeOf(110000))), []int{1, 2}},
		{"teams", relayState(t), []int{2, 2}},
		{"nothing", State{}, nil},
	} {
		n, e := Clubs(relayMeeting(), x.s)
		check(t, "Clubs, "+x.what, []any{n, e}, []any{x.want, api.OK})
	}
	checkOffice(t, "Clubs", func(m Meeting, s State) (any, api.Errno) { return Clubs(m, s) })
}

func TestChanged(t *testing.T) {
	without := func(names ...string) []Act {
		l := exampleActs()
		for _, name := range names {
			l = append(l, withdrawAct(7960, name, "sprint"))
		}
		return l
	}
	faster := exampleActs()
	faster[8].Mark = timeOf(111000)
	sole := exampleActs()
	sole[10].Mark = timeOf(110000)
	refused := append(exampleActs(), clubAct(1, "C"), enterAct(7999, "ann", "jump", noMark("NM")))
	for _, x := range []struct {
		what string
		a, b []Act
		want []string
	}{
		{"the same", exampleActs(), exampleActs(), nil},
		{"nothing", nil, nil, nil},
		{"from nothing", nil, exampleActs(), []string{"amy", "ann", "bea"}},
		{"to nothing", exampleActs(), nil, []string{"amy", "ann", "bea"}},
		{"a withdrawal", exampleActs(), without("amy"), []string{"amy", "ann"}},
		{"a withdrawal undone", without("amy"), exampleActs(), []string{"amy", "ann"}},
		{"a withdrawal of a reserve", exampleActs(), without("ann"), []string{"ann"}},
		{"a withdrawal with nobody to move up", exampleActs(), without("bea"), []string{"bea"}},
		{"two withdrawals", without("amy"), without("bea"), []string{"amy", "ann", "bea"}},
		{"a better mark", exampleActs(), faster, []string{"amy", "ann"}},
		{"another place among the accepted", exampleActs(), sole, nil},
		{"refused acts", exampleActs(), refused, nil},
		{"another contest", exampleActs(), append(exampleActs(), enterAct(7960, "ann", "jump", noMark("NM"))), nil},
		{"check-in", exampleActs(), append(exampleActs(), checkAct(8000, "ann", "sprint")), nil},
	} {
		l, e := Changed(exampleMeeting(), x.a, x.b, "sprint")
		check(t, "Changed, "+x.what, []any{l, e}, []any{x.want, api.OK})
	}
	l, e := Changed(exampleMeeting(), exampleActs(), append(exampleActs(), enterAct(7960, "ann", "jump", noMark("NM"))), "jump")
	check(t, "Changed in the jump", []any{l, e}, []any{[]string{"ann"}, api.OK})
}

func TestErrorsOfChanged(t *testing.T) {
	type call struct {
		m       Meeting
		a, b    []Act
		contest string
	}
	climb(t, "Changed", call{Meeting{Day: -1}, make([]Act, 257), make([]Act, 257), "throw"},
		func(x call) api.Errno {
			l, e := Changed(x.m, x.a, x.b, x.contest)
			check(t, "Changed beside an error", l, []string{})
			return e
		},
		rung[call]{api.ErrRange, func(x *call) { x.m = exampleMeeting() }},
		rung[call]{api.ErrMany, func(x *call) { x.a = []Act{clubAct(5, "A"), clubAct(-1, "A"), {}} }},
		rung[call]{api.ErrRange, func(x *call) { x.a[1].Day = 1 }},
		rung[call]{api.ErrKind, func(x *call) { x.a = x.a[:2] }},
		rung[call]{api.ErrMany, func(x *call) { x.b = []Act{clubAct(5, "A"), clubAct(5, "1"), {}} }},
		rung[call]{api.ErrName, func(x *call) { x.b[1].Club = "A" }},
		rung[call]{api.ErrKind, func(x *call) { x.b = x.b[:2] }},
		rung[call]{api.ErrUnknown, func(x *call) { x.contest = "relay" }},
		rung[call]{api.ErrKind, func(x *call) { x.contest = "jump" }},
	)
	for want, m := range wrongMeetings() {
		l, e := Changed(m, nil, nil, "relay")
		check(t, "Changed in a wrong meeting", []any{l, e}, []any{[]string{}, want})
	}
}
