package entry

import (
	"testing"

	"stadion/api"
)

// lists returns the names in the list of a contest, those who are accepted, the reserves, and the starters.
func lists(t *testing.T, m Meeting, s State, contest string) []any {
	t.Helper()
	list, e1 := List(m, s, contest)
	accepted, e2 := Accepted(m, s, contest)
	reserves, e3 := Reserves(m, s, contest)
	starters, e4 := Starters(m, s, contest)
	check(t, "the errors of lists", []any{e1, e2, e3, e4}, []any{api.OK, api.OK, api.OK, api.OK})
	var names []string
	for _, x := range list {
		names = append(names, x.Athlete)
	}
	return []any{names, accepted, reserves, starters}
}

func TestListsOfExample(t *testing.T) {
	m := exampleMeeting()
	for _, x := range []struct {
		what string
		more []Act
		want []any
	}{
		{"nobody checks in", nil, []any{[]string{"amy", "ann", "bea"}, []string{"amy", "bea"}, []string{"ann"}, []string{}}},
		{"amy withdraws", []Act{withdrawAct(7960, "amy", "sprint")}, []any{[]string{"ann", "bea"}, []string{"ann", "bea"}, []string{}, []string{}}},
		{"ann withdraws", []Act{withdrawAct(7960, "ann", "sprint")}, []any{[]string{"amy", "bea"}, []string{"amy", "bea"}, []string{}, []string{}}},
		{"ann and amy check in", []Act{checkAct(8000, "ann", "sprint"), checkAct(8000, "amy", "sprint")}, []any{[]string{"amy", "ann", "bea"}, []string{"amy", "bea"}, []string{"ann"}, []string{"amy"}}},
		{"ann alone checks in", []Act{checkAct(8000, "ann", "sprint")}, []any{[]string{"amy", "ann", "bea"}, []string{"amy", "bea"}, []string{"ann"}, []string{"ann"}}},
		{"bea and ann check in", []Act{checkAct(8000, "bea", "sprint"), checkAct(8000, "ann", "sprint")}, []any{[]string{"amy", "ann", "bea"}, []string{"amy", "bea"}, []string{"ann"}, []string{"ann", "bea"}}},
		{"amy enters the jump, too", []Act{enterAct(7960, "amy", "jump", lengthOf(5000)), checkAct(8000, "amy", "jump")}, []any{[]string{"amy", "ann", "bea"}, []string{"amy", "bea"}, []string{"ann"}, []string{}}},
	} {
		check(t, x.what, lists(t, m, exampleState(t, x.more...), "sprint"), x.want)
	}
	check(t, "the jump", lists(t, m, exampleState(t), "jump"), []any{[]string{}, []string{}, []string{}, []string{}})
	list, _ := List(m, exampleState(t, checkAct(8000, "ann", "sprint")), "sprint")
	check(t, "List", list, []Entry{{"amy", "sprint", timeOf(112000), 7950, false}, {"ann", "sprint", timeOf(115000), 7950, true}, {"bea", "sprint", timeOf(119000), 7950, false}})
}

// enteredState returns a state of athletes n0, n1 .. of two clubs in turn, whose entries in the contest have marks and days.
func enteredState(contest string, days []int, marks ...api.Mark) State {
	s := State{Clubs: []string{"A", "B"}}
	for i, name := range numbered(len(marks)) {
		s.Athletes = append(s.Athletes, api.Athlete{Name: name, Club: s.Clubs[i%2], Category: "women"})
		s.Entries = append(s.Entries, Entry{name, contest, marks[i], days[i], false})
	}
	return s
}

func TestOrderOfList(t *testing.T) {
	m := exampleMeeting()
	m.Contests = append(m.Contests, Contest{Name: "combined", Kind: "points", Standard: noMark("NM")})
	for _, x := range []struct {
		what    string
		contest string
		days    []int
		marks   []api.Mark
		want    []string
	}{
		{"lesser times", "sprint", []int{1, 2, 3}, []api.Mark{timeOf(3), timeOf(2), timeOf(1)}, []string{"n2", "n1", "n0"}},
		{"greater lengths", "jump", []int{1, 2, 3}, []api.Mark{lengthOf(2), lengthOf(3), lengthOf(1)}, []string{"n1", "n0", "n2"}},
		{"more points", "combined", []int{1, 2, 3}, []api.Mark{pointsOf(8), pointsOf(9), pointsOf(10)}, []string{"n2", "n1", "n0"}},
		{"earlier days", "jump", []int{3, 1, 2}, []api.Mark{lengthOf(5), lengthOf(5), lengthOf(5)}, []string{"n1", "n2", "n0"}},
		{"equal days", "jump", []int{2, 2, 1, 2}, []api.Mark{lengthOf(5), lengthOf(5), lengthOf(5), lengthOf(5)}, []string{"n2", "n0", "n1", "n3"}},
		{"better marks ahead of earlier days", "sprint", []int{1, 2}, []api.Mark{timeOf(5), timeOf(4)}, []string{"n1", "n0"}},
		{"no marks behind the others", "sprint", []int{1, 2, 1}, []api.Mark{noMark("NM"), timeOf(863999999), noMark("DNS")}, []string{"n1", "n0", "n2"}},
		{"no marks of a length", "jump", []int{0, 2}, []api.Mark{noMark("NM"), lengthOf(0)}, []string{"n1", "n0"}},
		{"no marks are equal, whatever their reasons", "jump", []int{3, 2, 1, 2}, []api.Mark{noMark("DNS"), noMark("NM"), noMark("DQ"), noMark("DNF")}, []string{"n2", "n1", "n3", "n0"}},
	} {
		check(t, x.what, lists(t, m, enteredState(x.contest, x.days, x.marks...), x.contest)[0], x.want)
	}
}

func TestPlaces(t *testing.T) {
	days := make([]int, 6)
	marks := []api.Mark{lengthOf(6), lengthOf(4), lengthOf(5), lengthOf(3), lengthOf(2), lengthOf(1)} // n0 n2 n1 n3 n4 n5: A A B B A B
	for _, x := range []struct {
		places, perClub    int
		accepted, reserves []string
	}{
		{0, 8, nil, []string{"n0", "n2", "n1", "n3", "n4", "n5"}},
		{8, 0, nil, []string{"n0", "n2", "n1", "n3", "n4", "n5"}},
		{1, 1, []string{"n0"}, []string{"n2", "n1", "n3", "n4", "n5"}},
		{2, 1, []string{"n0", "n1"}, []string{"n2", "n3", "n4", "n5"}},
		{3, 1, []string{"n0", "n1"}, []string{"n2", "n3", "n4", "n5"}},
		{2, 2, []string{"n0", "n2"}, []string{"n1", "n3", "n4", "n5"}},
		{5, 2, []string{"n0", "n2", "n1", "n3"}, []string{"n4", "n5"}},
		{5, 3, []string{"n0", "n2", "n1", "n3", "n4"}, []string{"n5"}},
		{6, 3, []string{"n0", "n2", "n1", "n3", "n4", "n5"}, nil},
		{160, 160, []string{"n0", "n2", "n1", "n3", "n4", "n5"}, nil},
	} {
		m := exampleMeeting()
		m.Contests[1].Places, m.Contests[1].PerClub = x.places, x.perClub
		got := lists(t, m, enteredState("jump", days, marks...), "jump")
		check(t, "Accepted and Reserves", []any{x.places, x.perClub, got[1], got[2]}, []any{x.places, x.perClub, x.accepted, x.reserves})
	}
	m, s := exampleMeeting(), enteredState("jump", days, marks...)
	m.Contests[1].Places, m.Contests[1].PerClub = 3, 2
	for i := range s.Entries {
		s.Entries[i].Checked = i != 0 && i != 3
	}
	check(t, "Starters", lists(t, m, s, "jump")[1:], []any{[]string{"n0", "n2", "n1"}, []string{"n3", "n4", "n5"}, []string{"n2", "n1", "n4"}})
	s.Athletes[2].Club = "B"
	check(t, "of another club", lists(t, m, s, "jump")[1:], []any{[]string{"n0", "n2", "n1"}, []string{"n3", "n4", "n5"}, []string{"n2", "n1", "n4"}})
	m.Contests[1].PerClub = 1
	check(t, "one of a club", lists(t, m, s, "jump")[1:], []any{[]string{"n0", "n2"}, []string{"n1", "n3", "n4", "n5"}, []string{"n2", "n4"}})
}

func TestErrorsOfLists(t *testing.T) {
	for what, f := range map[string]func(m Meeting, s State, contest string) (any, api.Errno){
		"List":     func(m Meeting, s State, contest string) (any, api.Errno) { return List(m, s, contest) },
		"Accepted": func(m Meeting, s State, contest string) (any, api.Errno) { return Accepted(m, s, contest) },
		"Reserves": func(m Meeting, s State, contest string) (any, api.Errno) { return Reserves(m, s, contest) },
		"Starters": func(m Meeting, s State, contest string) (any, api.Errno) { return Starters(m, s, contest) },
	} {
		checkOffice(t, what, func(m Meeting, s State) (any, api.Errno) { return f(m, s, "relay") })
		s := exampleState(t, checkAct(8000, "ann", "sprint"))
		l, e := f(exampleMeeting(), s, "relay")
		check(t, what+" of a relay", []any{l, e}, []any{[]string{}, api.ErrKind})
		for _, name := range []string{"", "throw", "Sprint"} {
			l, e = f(exampleMeeting(), s, name)
			check(t, what+" of no contest", []any{l, e}, []any{[]string{}, api.ErrUnknown})
		}
	}
}

func TestMemoryOfList(t *testing.T) {
	s := exampleState(t)
	first, _ := List(exampleMeeting(), s, "sprint")
	second, _ := List(exampleMeeting(), s, "sprint")
	second[0].Athlete, s.Entries[1].Day = "spoilt", 0
	check(t, "List", first[0], Entry{"amy", "sprint", timeOf(112000), 7950, false})
	first[1].Athlete = "spoilt"
	check(t, "the state", s.Entries[0].Athlete, "ann")
}
