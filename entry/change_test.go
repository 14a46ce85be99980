package entry

import (
	"fmt"
	"slices"
	"testing"

	"stadion/api"
)

// checkNext checks the state after an act, which is the one before it, changed, and that this one stays as it was.
func checkNext(t *testing.T, m Meeting, s State, a Act, change func(s *State)) State {
	t.Helper()
	want := copyOf(s)
	change(&want)
	before := fmt.Sprintf("%+v", s)
	got, e := Next(m, s, a)
	check(t, "Next, "+a.Kind, []any{got, e}, []any{want, api.OK})
	check(t, "the state after it", CheckState(m, got), api.OK)
	check(t, "the state before it", fmt.Sprintf("%+v", s), before)
	return got
}

func TestNext(t *testing.T) {
	m, s := exampleMeeting(), exampleState(t)
	s = checkNext(t, m, s, clubAct(100, "C"), func(s *State) { s.Clubs = append(s.Clubs, "C") })
	s = checkNext(t, m, s, athleteAct(100, "cat", "C", 50), func(s *State) {
		s.Athletes = append(s.Athletes, api.Athlete{Name: "cat", Club: "C", Born: 50, Category: "women"})
	})
	s = checkNext(t, m, s, licenceAct(100, "cat", 7, 9), func(s *State) { s.Licences = append(s.Licences, Licence{"cat", 7, 9}) })
	s = checkNext(t, m, s, transferAct(100, "cat", "B"), func(s *State) { s.Athletes[3].Club = "B" })
	s = checkNext(t, m, s, enterAct(7960, "amy", "jump", noMark("DNF")), func(s *State) {
		s.Entries = append(s.Entries, Entry{"amy", "jump", noMark("DNF"), 7960, false})
	})
	s = checkNext(t, m, s, enterAct(7970, "ann", "jump", lengthOf(5000)), func(s *State) {
		s.Entries = append(s.Entries, Entry{"ann", "jump", lengthOf(5000), 7970, false})
	})
	s = checkNext(t, m, s, checkAct(8000, "amy", "jump"), func(s *State) { s.Entries[3].Checked = true })
	s = checkNext(t, m, s, checkAct(8000, "ann", "sprint"), func(s *State) { s.Entries[0].Checked = true })
	s = checkNext(t, m, s, withdrawAct(8000, "amy", "sprint"), func(s *State) { s.Entries = slices.Delete(s.Entries, 1, 2) })
	s = checkNext(t, m, s, withdrawAct(8000, "ann", "jump"), func(s *State) { s.Entries = s.Entries[:3] })
	m.Contests[2].Team = 1
	s = checkNext(t, m, s, teamAct(7960, "A", "relay", "ann"), func(s *State) { s.Teams = []Team{{"A", "relay", []string{"ann"}}} })
	s = checkNext(t, m, s, teamAct(7960, "B", "relay", "bea"), func(s *State) { s.Teams = append(s.Teams, Team{"B", "relay", []string{"bea"}}) })
	checkNext(t, m, s, teamAct(7960, "A", "relay", "amy"), func(s *State) { s.Teams[0].Runners = []string{"amy"} })
	checkNext(t, m, s, teamAct(7960, "B", "relay", "bea"), func(s *State) {})
}

func TestNextFromNothing(t *testing.T) {
	checkNext(t, Meeting{}, State{}, clubAct(100, "C"), func(s *State) { s.Clubs = []string{"C"} })
	_, e := Next(Meeting{}, State{}, athleteAct(100, "cat", "C", 50))
	check(t, "an athlete of no club", e, api.ErrUnknown)
}

// TestNextAlone checks that the day of an act is not compared with that of others.
func TestNextAlone(t *testing.T) {
	s := exampleState(t)
	checkNext(t, exampleMeeting(), s, enterAct(7900, "ann", "jump", lengthOf(1)), func(s *State) {
		s.Entries = append(s.Entries, Entry{"ann", "jump", lengthOf(1), 7900, false})
	})
}

func TestNextOfFullState(t *testing.T) {
	m, s := fullState(256)
	m.Contests = append(m.Contests, Contest{Name: "more", Kind: "points", Most: 120, Standard: noMark("NM")}, Contest{Name: "teams", Kind: "points", Most: 120, Standard: noMark("NM"), Team: 1})
	m.Opens, m.Closes = 0, 8000
	m.Contests[1].Most = 120
	for _, a := range []Act{clubAct(100, "new"), athleteAct(100, "new", "n0", 0), licenceAct(100, "n0", 0, 1), enterAct(100, "n0", "more", noMark("NM")), teamAct(100, "n0", "teams", "n0")} {
		check(t, "Legal of one more "+a.Kind, Legal(m, s, a), api.OK)
		got, e := Next(m, s, a)
		check(t, "Next of one more "+a.Kind, []any{got, e}, []any{State{}, api.ErrMany})
	}
	_, e := Next(m, s, clubAct(100, "n0"))
	check(t, "a club that is not legal", e, api.ErrTwice)
	checkNext(t, m, s, teamAct(100, "n0", "n1", "n5"), func(s *State) { s.Teams[0].Runners = []string{"n5"} })
	checkNext(t, m, s, withdrawAct(100, "n255", "n0"), func(s *State) { s.Entries = s.Entries[:255] })
	m, s = fullState(255)
	checkNext(t, m, s, clubAct(100, "new"), func(s *State) { s.Clubs = append(s.Clubs, "new") })
	checkNext(t, m, s, licenceAct(100, "n0", 0, 1), func(s *State) { s.Licences = append(s.Licences, Licence{"n0", 0, 1}) })
}

// spoil changes all that a state has in its lists.
func spoil(s State) {
	for i := range s.Clubs {
		s.Clubs[i] = "spoilt"
	}
	for i := range s.Athletes {
		s.Athletes[i].Club = "spoilt"
	}
	for i := range s.Licences {
		s.Licences[i].To = -1
	}
	for i := range s.Entries {
		s.Entries[i].Checked = !s.Entries[i].Checked
	}
	for _, x := range s.Teams {
		for i := range x.Runners {
			x.Runners[i] = "spoilt"
		}
	}
}

func TestMemoryOfNext(t *testing.T) {
	names := []string{"ann", "amy"}
	acts := append(validActs()[:0:0], clubAct(7960, "C"), athleteAct(7960, "cat", "A", 1), licenceAct(7960, "ann", 1, 2), transferAct(7960, "amy", "B"), enterAct(7960, "ann", "jump", lengthOf(1)), withdrawAct(7960, "ann", "sprint"), checkAct(8000, "ann", "sprint"), teamAct(7960, "A", "relay", names...))
	for _, a := range acts {
		s := exampleState(t, teamAct(7960, "A", "relay", "amy", "ann"))
		s.Entries = slices.Delete(s.Entries, 1, 2) // amy may be transferred then
		s.Clubs, s.Athletes, s.Licences, s.Entries = slices.Grow(s.Clubs, 1), slices.Grow(s.Athletes, 1), slices.Grow(s.Licences, 1), slices.Grow(s.Entries, 1)
		before := fmt.Sprintf("%+v", s)
		first, e := Next(exampleMeeting(), s, a)
		check(t, a.Kind, e, api.OK)
		after := fmt.Sprintf("%+v", first)
		second, _ := Next(exampleMeeting(), s, a)
		spoil(second)
		check(t, "the state before "+a.Kind, s, before)
		check(t, "the other state after "+a.Kind, first, after)
		spoil(s)
		check(t, "the state after "+a.Kind, first, after)
	}
	s, _ := Next(exampleMeeting(), exampleState(t), teamAct(7960, "A", "relay", names...))
	names[0] = "bea"
	check(t, "the runners", s.Teams[0].Runners, []string{"ann", "amy"})
}
