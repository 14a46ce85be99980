package entry

import (
	"testing"

	"stadion/api"
)

// legality is an act and the error with which it is not legal.
type legality struct {
	what string
	a    Act
	want api.Errno
}

// checkLegal checks Legal, and that Next has the same error.
func checkLegal(t *testing.T, m Meeting, s State, l []legality) {
	t.Helper()
	for _, x := range l {
		check(t, "Legal, "+x.what, Legal(m, s, x.a), x.want)
		next, e := Next(m, s, x.a)
		check(t, "Next, "+x.what, e, x.want)
		if e != api.OK {
			check(t, "the state beside the error, "+x.what, next, State{})
		}
	}
}

func TestLegal(t *testing.T) {
	s := exampleState(t, enterAct(7960, "amy", "jump", noMark("NM")), checkAct(8000, "amy", "jump"))
	s.Athletes = append(s.Athletes, api.Athlete{Name: "cat", Club: "B", Born: 1000, Category: "men"})
	s.Athletes = append(s.Athletes, api.Athlete{Name: "dot", Club: "A", Born: 1000, Category: "men"})
	s.Licences = append(s.Licences, Licence{"dot", 8000, 8000})
	checkLegal(t, exampleMeeting(), s, []legality{
		{"a further club", clubAct(0, "C"), api.OK},
		{"a club after the meeting", clubAct(9000, "C"), api.OK},
		{"a club twice", clubAct(7960, "B"), api.ErrTwice},
		{"a club with the name of an athlete", clubAct(7960, "ann"), api.OK},
		{"a further athlete", athleteAct(7960, "eve", "B", 100), api.OK},
		{"an athlete of no club", athleteAct(7960, "eve", "C", 100), api.ErrUnknown},
		{"an athlete twice, of no club", athleteAct(7960, "ann", "C", 100), api.ErrUnknown},
		{"an athlete twice", athleteAct(7960, "ann", "B", 100), api.ErrTwice},
		{"an athlete twice, who is not born", athleteAct(7960, "ann", "B", 7961), api.ErrTwice},
		{"an athlete born on the day", athleteAct(7960, "eve", "B", 7960), api.OK},
		{"an athlete who is not born", athleteAct(7960, "eve", "B", 7961), api.ErrRange},
		{"a further licence", licenceAct(7960, "ann", 0, 1), api.OK},
		{"the same licence", licenceAct(7960, "ann", 7000, 9000), api.OK},
		{"a licence of nobody", licenceAct(7960, "eve", 0, 1), api.ErrUnknown},
		{"a transfer", transferAct(9000, "cat", "A"), api.OK},
		{"a transfer of nobody", transferAct(7960, "eve", "A"), api.ErrUnknown},
		{"a transfer to no club", transferAct(7960, "cat", "C"), api.ErrUnknown},
		{"a transfer to the same club", transferAct(7960, "cat", "B"), api.ErrTwice},
		{"a transfer to the same club with entries", transferAct(7960, "ann", "A"), api.ErrTwice},
		{"a transfer with an entry", transferAct(7960, "ann", "B"), api.ErrState},
		{"a withdrawal", withdrawAct(0, "ann", "sprint"), api.OK},
		{"a withdrawal on the day", withdrawAct(8000, "ann", "sprint"), api.OK},
		{"a withdrawal after it", withdrawAct(8001, "ann", "sprint"), api.ErrOver},
		{"a withdrawal after check-in", withdrawAct(8000, "amy", "jump"), api.OK},
		{"a withdrawal of no entry", withdrawAct(8001, "ann", "jump"), api.ErrUnknown},
		{"a withdrawal of nobody", withdrawAct(8000, "eve", "sprint"), api.ErrUnknown},
		{"a withdrawal from no contest", withdrawAct(8000, "ann", "throw"), api.ErrUnknown},
		{"a check-in", checkAct(8000, "ann", "sprint"), api.OK},
		{"a check-in ahead of the day", checkAct(7999, "ann", "sprint"), api.ErrState},
		{"a check-in after the day", checkAct(8001, "ann", "sprint"), api.ErrState},
		{"a check-in twice", checkAct(8000, "amy", "jump"), api.ErrTwice},
		{"a check-in twice, ahead of the day", checkAct(7999, "amy", "jump"), api.ErrTwice},
		{"a check-in without an entry", checkAct(7999, "bea", "jump"), api.ErrUnknown},
		{"a check-in in no contest", checkAct(8000, "ann", "throw"), api.ErrUnknown},
	})
}

func TestLegalEntries(t *testing.T) {
	s := exampleState(t, enterAct(7960, "amy", "jump", noMark("NM")))
	s.Athletes = append(s.Athletes, api.Athlete{Name: "cat", Club: "B", Born: 1000, Category: "men"})
	m := exampleMeeting()
	m.Contests = append(m.Contests, Contest{Name: "throw", Kind: "length", Category: "women", Most: 120, Standard: lengthOf(5000)}, Contest{Name: "old", Kind: "points", Category: "women", Least: 20, Most: 120, Standard: pointsOf(70)}, Contest{Name: "all", Kind: "points", Most: 120, Standard: pointsOf(70)})
	checkLegal(t, m, s, []legality{
		{"of nobody", enterAct(7960, "eve", "jump", lengthOf(1)), api.ErrUnknown},
		{"in no contest", enterAct(7960, "ann", "dive", lengthOf(1)), api.ErrUnknown},
		{"in a relay", enterAct(7899, "ann", "relay", lengthOf(1)), api.ErrKind},
		{"on the first day", enterAct(7900, "ann", "jump", lengthOf(1)), api.OK},
		{"ahead of it", enterAct(7899, "ann", "jump", lengthOf(1)), api.ErrState},
		{"on the last day", enterAct(7990, "ann", "jump", lengthOf(1)), api.OK},
		{"after it", enterAct(7991, "ann", "jump", lengthOf(1)), api.ErrState},
		{"again, too late", enterAct(7999, "ann", "sprint", lengthOf(1)), api.ErrState},
		{"again", enterAct(7960, "ann", "sprint", timeOf(110000)), api.ErrTwice},
		{"again with a wrong mark", enterAct(7960, "ann", "sprint", lengthOf(1)), api.ErrTwice},
		{"of another category, without a licence, with a wrong mark", enterAct(7960, "cat", "throw", timeOf(1)), api.ErrRule},
		{"of another age, with a wrong mark", enterAct(7960, "ann", "old", timeOf(1)), api.ErrRule},
		{"without a licence, with a wrong mark", enterAct(7960, "cat", "jump", timeOf(1)), api.ErrNone},
		{"with a mark of another kind", enterAct(7960, "ann", "jump", timeOf(1)), api.ErrStandard},
		{"with a mark of another kind beyond the limit", enterAct(7960, "amy", "throw", timeOf(1)), api.ErrStandard},
		{"without a mark, without a standard", enterAct(7960, "ann", "jump", noMark("DNS")), api.OK},
		{"with the least length, without a standard", enterAct(7960, "ann", "jump", lengthOf(0)), api.OK},
		{"without a mark, with a standard", enterAct(7960, "ann", "throw", noMark("NM")), api.ErrStandard},
		{"with the length of the standard", enterAct(7960, "ann", "throw", lengthOf(5000)), api.OK},
		{"with a better length", enterAct(7960, "ann", "throw", lengthOf(5001)), api.OK},
		{"with a worse length", enterAct(7960, "ann", "throw", lengthOf(4999)), api.ErrStandard},
		{"with the points of the standard", enterAct(7960, "ann", "all", pointsOf(70)), api.OK},
		{"with less points", enterAct(7960, "ann", "all", pointsOf(69)), api.ErrStandard},
		{"beyond the limit", enterAct(7960, "amy", "throw", lengthOf(5000)), api.ErrMany},
		{"worse than the standard, beyond the limit", enterAct(7960, "amy", "throw", lengthOf(4999)), api.ErrStandard},
	})
	s.Entries = s.Entries[1:] // ann has none then
	checkLegal(t, m, s, []legality{
		{"with the time of the standard", enterAct(7960, "ann", "sprint", timeOf(120000)), api.OK},
		{"with a worse time", enterAct(7960, "ann", "sprint", timeOf(120001)), api.ErrStandard},
		{"with a better time", enterAct(7960, "ann", "sprint", timeOf(1)), api.OK},
	})
	s.Entries = append(s.Entries, Entry{Athlete: "cat", Contest: "jump", Mark: noMark("NM")})
	checkLegal(t, m, s, []legality{{"again without a licence", enterAct(7960, "cat", "jump", lengthOf(1)), api.ErrTwice}})
	m.Limit = 0
	checkLegal(t, m, s, []legality{{"with the limit 0", enterAct(7960, "ann", "jump", lengthOf(1)), api.ErrMany}})
	m.Limit = 1
	checkLegal(t, m, s, []legality{
		{"with the limit 1", enterAct(7960, "ann", "jump", lengthOf(1)), api.OK},
		{"with the limit 1 and an entry", enterAct(7960, "bea", "jump", lengthOf(1)), api.ErrMany},
		{"with the limit 1 and two entries", enterAct(7960, "amy", "throw", lengthOf(5000)), api.ErrMany},
	})
}

func TestLegalTeams(t *testing.T) {
	m, s := exampleMeeting(), exampleState(t)
	s.Athletes = append(s.Athletes, api.Athlete{Name: "cat", Club: "A", Born: 1000, Category: "men"}, api.Athlete{Name: "dot", Club: "A", Born: 7000, Category: "women"})
	s.Licences = append(s.Licences, Licence{"dot", 8000, 8000})
	checkLegal(t, m, s, []legality{
		{"of the club", teamAct(7960, "A", "relay", "ann", "amy"), api.OK},
		{"in another order, ahead of the entries", teamAct(0, "A", "relay", "amy", "ann"), api.OK},
		{"on the day", teamAct(8000, "A", "relay", "ann", "amy"), api.OK},
		{"after the day", teamAct(8001, "A", "relay", "ann"), api.ErrOver},
		{"of no club", teamAct(8001, "C", "relay", "ann", "amy"), api.ErrUnknown},
		{"in no contest", teamAct(8001, "A", "throw", "ann", "amy"), api.ErrUnknown},
		{"in the jump", teamAct(8001, "A", "jump", "ann", "amy"), api.ErrKind},
		{"in the jump without names", teamAct(7960, "A", "jump"), api.ErrKind},
		{"without names", teamAct(7960, "A", "relay"), api.ErrShape},
		{"with a name less", teamAct(7960, "A", "relay", "eve"), api.ErrShape},
		{"with a name more", teamAct(7960, "A", "relay", "ann", "amy", "eve"), api.ErrShape},
		{"with nobody", teamAct(7960, "A", "relay", "ann", "eve"), api.ErrUnknown},
		{"with one of another club", teamAct(7960, "A", "relay", "ann", "bea"), api.ErrRule},
		{"with one of another club ahead of nobody", teamAct(7960, "A", "relay", "bea", "eve"), api.ErrRule},
		{"with nobody ahead of one of another club", teamAct(7960, "A", "relay", "eve", "bea"), api.ErrUnknown},
		{"with one twice", teamAct(7960, "A", "relay", "ann", "ann"), api.ErrTwice},
		{"with one of another club twice", teamAct(7960, "A", "relay", "bea", "bea"), api.ErrRule},
		{"with one without a licence", teamAct(7960, "A", "relay", "ann", "cat"), api.ErrNone},
		{"with one without a licence twice", teamAct(7960, "A", "relay", "cat", "cat"), api.ErrNone},
		{"with one who is too young", teamAct(7960, "A", "relay", "dot", "eve"), api.ErrRule},
		{"of the other club, with its own and another one", teamAct(7960, "B", "relay", "bea", "ann"), api.ErrRule},
	})
	m.Contests[2].Category = "men"
	checkLegal(t, m, s, []legality{
		{"with one of another category", teamAct(7960, "A", "relay", "ann", "amy"), api.ErrRule},
		{"with nobody behind one without a licence", teamAct(7960, "A", "relay", "cat", "eve"), api.ErrNone},
	})
	m.Contests[2].Category, m.Contests[2].Team, m.Limit = "", 1, 0
	checkLegal(t, m, s, []legality{{"of one, with entries beyond the limit", teamAct(7960, "A", "relay", "ann"), api.OK}})
}

func TestArgumentsOfLegal(t *testing.T) {
	checkOffice(t, "Legal", func(m Meeting, s State) (any, api.Errno) { return nil, Legal(m, s, Act{}) })
	checkOffice(t, "Next", func(m Meeting, s State) (any, api.Errno) { return Next(m, s, Act{}) })
	checkLegal(t, exampleMeeting(), exampleState(t), []legality{
		{"no kind", Act{Club: "A"}, api.ErrKind},
		{"a wrong name", clubAct(7960, "-"), api.ErrName},
		{"a field too much", Act{Kind: "club", Club: "A", To: 1}, api.ErrForm},
		{"a wrong mark of nobody", enterAct(7960, "eve", "jump", timeOf(0)), api.ErrRange},
		{"an empty mark", enterAct(7960, "ann", "jump", api.Mark{}), api.ErrKind},
		{"a licence from its end on", licenceAct(7960, "eve", 2, 1), api.ErrOrder},
		{"too many names", teamAct(7960, "C", "relay", numbered(9)...), api.ErrMany},
		{"a day out of range", checkAct(100000, "eve", "jump"), api.ErrRange},
	})
}
