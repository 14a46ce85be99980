package entry

import (
	"fmt"
	"testing"

	"stadion/api"
)

func TestReplay(t *testing.T) {
	s, refused, e := Replay(exampleMeeting(), exampleActs())
	check(t, "Replay of the example", []any{refused, e}, []any{[]Refusal{}, api.OK})
	check(t, "the state of the example", s, State{
		Clubs:    []string{"A", "B"},
		Athletes: []api.Athlete{{Name: "ann", Club: "A", Born: 1000, Category: "women"}, {Name: "amy", Club: "A", Born: 1000, Category: "women"}, {Name: "bea", Club: "B", Born: 1000, Category: "women"}},
		Licences: []Licence{{"ann", 7000, 9000}, {"amy", 7000, 9000}, {"bea", 7000, 9000}},
		Entries:  []Entry{{"ann", "sprint", timeOf(115000), 7950, false}, {"amy", "sprint", timeOf(112000), 7950, false}, {"bea", "sprint", timeOf(119000), 7950, false}},
	})
	s, refused, e = Replay(Meeting{}, []Act{clubAct(0, "B"), clubAct(0, "A"), clubAct(1, "C"), clubAct(0, "D"), clubAct(1, "E")})
	check(t, "Replay from the first day on", []any{s, refused, e}, []any{State{Clubs: []string{"B", "A", "C", "E"}}, []Refusal{{3, api.ErrOrder}}, api.OK})
	for _, m := range []Meeting{exampleMeeting(), {}} {
		s, refused, e = Replay(m, nil)
		check(t, "Replay of nothing", []any{s, refused, e}, []any{State{}, []Refusal{}, api.OK})
	}
}

func TestRefusals(t *testing.T) {
	late := exampleMeeting()
	late.Limit = 1
	for _, x := range []struct {
		what string
		m    Meeting
		more []Act
		want []Refusal
	}{
		{"the standard", exampleMeeting(), []Act{withdrawAct(7950, "ann", "sprint"), enterAct(7950, "ann", "sprint", timeOf(125000))}, []Refusal{{12, api.ErrStandard}}},
		{"too late", exampleMeeting(), []Act{enterAct(7999, "ann", "jump", noMark("NM"))}, []Refusal{{11, api.ErrState}}},
		{"twice", exampleMeeting(), []Act{enterAct(7960, "ann", "sprint", timeOf(110000))}, []Refusal{{11, api.ErrTwice}}},
		{"the limit", late, []Act{enterAct(7960, "ann", "jump", noMark("NM"))}, []Refusal{{11, api.ErrMany}}},
		{"a team", exampleMeeting(), []Act{teamAct(7960, "A", "relay", "ann", "amy"), teamAct(7960, "A", "relay", "ann", "bea")}, []Refusal{{12, api.ErrRule}}},
		{"an earlier day", exampleMeeting(), []Act{clubAct(7949, "C"), clubAct(7950, "D")}, []Refusal{{11, api.ErrOrder}}},
		{"an earlier day and not legal", exampleMeeting(), []Act{clubAct(7949, "A")}, []Refusal{{11, api.ErrOrder}}},
		{"after an act that is not legal", exampleMeeting(), []Act{clubAct(9000, "A"), clubAct(8999, "C"), clubAct(9000, "C")}, []Refusal{{11, api.ErrTwice}, {12, api.ErrOrder}}},
		{"after one that is too early", exampleMeeting(), []Act{clubAct(9000, "C"), clubAct(8000, "D"), clubAct(8500, "E"), clubAct(9000, "F")}, []Refusal{{12, api.ErrOrder}, {13, api.ErrOrder}}},
		{"in the state that is there", exampleMeeting(), []Act{clubAct(9000, "C"), clubAct(9000, "C"), athleteAct(9000, "cat", "D", 1), clubAct(9000, "D"), athleteAct(9000, "cat", "D", 1)}, []Refusal{{12, api.ErrTwice}, {13, api.ErrUnknown}}},
	} {
		s, refused, e := Replay(x.m, append(exampleActs(), x.more...))
		check(t, "Replay, "+x.what, []any{refused, e}, []any{x.want, api.OK})
		again, refused, e := Replay(x.m, without(append(exampleActs(), x.more...), x.want))
		check(t, "Replay without the refused acts, "+x.what, []any{again, refused, e}, []any{s, []Refusal{}, api.OK})
	}
}

// without returns the acts that are not refused.
func without(l []Act, refused []Refusal) []Act {
	is := map[int]bool{}
	for _, r := range refused {
		is[r.Act] = true
	}
	var left []Act
	for i, a := range l {
		if !is[i] {
			left = append(left, a)
		}
	}
	return left
}

func TestFullReplay(t *testing.T) {
	var acts []Act
	for _, name := range numbered(256) {
		acts = append(acts, clubAct(99999, name))
	}
	s, refused, e := Replay(Meeting{}, acts)
	check(t, "256 acts", []any{s.Clubs, refused, e}, []any{numbered(256), []Refusal{}, api.OK})
	s, refused, e = Replay(Meeting{}, repeated(Act{}, 257))
	check(t, "257 acts", []any{s, refused, e}, []any{State{}, []Refusal{}, api.ErrMany})
}

func TestErrorsOfReplay(t *testing.T) {
	for want, m := range wrongMeetings() {
		s, refused, e := Replay(m, make([]Act, 257))
		check(t, "a wrong meeting", []any{s, refused, e}, []any{State{}, []Refusal{}, want})
	}
	for _, x := range []struct {
		a    Act
		want api.Errno
	}{{Act{Kind: "leave", Day: -1}, api.ErrKind}, {clubAct(-1, "-"), api.ErrRange}, {clubAct(1, ""), api.ErrName}, {Act{Kind: "club", Club: "A", From: 1}, api.ErrForm}, {enterAct(1, "ann", "jump", noMark("")), api.ErrForm}, {licenceAct(1, "ann", 2, 1), api.ErrOrder}} {
		// legal acts in front of it, and another error behind it
		l := append(exampleActs(), clubAct(7960, "A"), x.a, teamAct(0, "", "", numbered(9)...))
		s, refused, e := Replay(exampleMeeting(), l)
		check(t, "a wrong act", []any{s, refused, e}, []any{State{}, []Refusal{}, x.want})
	}
}

func TestMemoryOfReplay(t *testing.T) {
	acts := append(exampleActs(), teamAct(7960, "A", "relay", "ann", "amy"))
	first, _, _ := Replay(exampleMeeting(), acts)
	text := fmt.Sprintf("%+v", first)
	second, _, _ := Replay(exampleMeeting(), acts)
	spoil(second)
	acts[11].Names[0] = "bea"
	acts[0].Club = "C"
	check(t, "the state", first, text)
}
