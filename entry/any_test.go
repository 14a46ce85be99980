package entry

import (
	"fmt"
	"math"
	"math/rand"
	"testing"

	"stadion/api"
)

// anything fills in arguments of any form, about every twentieth value of which is a wrong one.
type anything struct{ *rand.Rand }

func (r anything) text(l ...string) string {
	if r.Intn(20) == 0 {
		return pick(r.Rand, "", "-", "0a", "none", "abcdefghijklmnopqrstuvwxy", "\xff", "é")
	}
	return pick(r.Rand, l...)
}

func (r anything) number(l ...int) int {
	if r.Intn(20) == 0 {
		return pick(r.Rand, math.MinInt, -1, 0, 100000, math.MaxInt)
	}
	return pick(r.Rand, l...)
}

func (r anything) size(n int) int {
	if r.Intn(40) == 0 {
		return 300
	}
	return r.Intn(n)
}

func (r anything) mark() api.Mark {
	if r.Intn(3) == 0 {
		return api.Mark{Kind: r.text("none"), Value: r.number(0), Reason: r.text("NM", "DNS")}
	}
	return api.Mark{Kind: r.text("time", "length", "points"), Value: r.number(1, 2, 3)}
}

func (r anything) meeting() Meeting {
	m := Meeting{Day: r.number(8000), Opens: r.number(7000), Closes: r.number(7000, 8000), Limit: r.number(0, 2, 32)}
	for i := range r.size(4) {
		c := Contest{r.text("c" + fmt.Sprint(i)), r.text("time", "length"), r.text("men", ""), r.number(0), r.number(120), r.number(0, 2), r.number(0, 2), api.Mark{}, r.number(0, 0, 2)}
		c.Standard = pick(r.Rand, noMark("NM"), api.Mark{Kind: c.Kind, Value: 2}, r.mark())
		m.Contests = append(m.Contests, c)
	}
	return m
}

func (r anything) names() []string {
	var l []string
	for range r.size(4) {
		l = append(l, r.text("ann", "bob", "cat"))
	}
	return l
}

func (r anything) state() State {
	var s State
	for i := range r.size(3) {
		s.Clubs = append(s.Clubs, r.text("A"+fmt.Sprint(i)))
	}
	for i := range r.size(4) {
		s.Athletes = append(s.Athletes, api.Athlete{Name: r.text([]string{"ann", "bob", "cat", "x"}[i%4]), Club: r.text("A0"), Born: r.number(0, 1), Category: r.text("men")})
	}
	for range r.size(3) {
		s.Licences = append(s.Licences, Licence{r.text("ann", "bob"), r.number(0, 7), r.number(7, 9000)})
	}
	for range r.size(3) {
		s.Entries = append(s.Entries, Entry{r.text("ann", "bob"), r.text("c0", "c1"), r.mark(), r.number(7000), r.Intn(2) == 0})
	}
	for range r.size(2) {
		s.Teams = append(s.Teams, Team{r.text("A0", "A1"), r.text("c0", "c1"), r.names()})
	}
	return s
}

func (r anything) act() Act {
	if r.Intn(2) == 0 {
		return Act{r.number(7000, 8000), r.text("club", "athlete", "licence", "transfer", "enter", "withdraw", "check", "team"), r.text("ann", ""), r.text("A0", ""), r.text("men", ""), r.text("c0", ""), r.number(0, 1), r.number(0, 1), r.mark(), r.names()}
	}
	a := pick(r.Rand, validActs()...)
	a.Day = r.number(7000, 8000)
	if a.Contest != "" {
		a.Contest = r.text("c0", "c1")
	}
	if a.Club != "" {
		a.Club = r.text("A0", "A1")
	}
	return a
}

func (r anything) acts() []Act {
	var l []Act
	for range r.size(5) {
		l = append(l, r.act())
	}
	return l
}

// TestAnyArguments checks that no function panics, and that nothing stands beside an error.
func TestAnyArguments(t *testing.T) {
	r := anything{rand.New(rand.NewSource(4))}
	fine := map[string]int{}
	for range 3000 {
		m, s, a, l, other := r.meeting(), r.state(), r.act(), r.acts(), r.acts()
		athlete, contest, day := r.text("ann", "bob"), r.text("c0", "c1"), r.number(0, 8000)
		for name, f := range map[string]func() (any, api.Errno){
			"CheckMeeting": func() (any, api.Errno) { return nil, CheckMeeting(m) },
			"CheckAct":     func() (any, api.Errno) { return nil, CheckAct(a) },
			"CheckState":   func() (any, api.Errno) { return nil, CheckState(m, s) },
			"Age":          func() (any, api.Errno) { return Age(api.Athlete{Name: athlete, Born: day}, r.number(9000)) },
			"Licensed":     func() (any, api.Errno) { return Licensed(s.Licences, athlete, day) },
			"Eligible":     func() (any, api.Errno) { return nil, Eligible(m, s, athlete, contest) },
			"Legal":        func() (any, api.Errno) { return nil, Legal(m, s, a) },
			"Next":         func() (any, api.Errno) { return Next(m, s, a) },
			"Replay":       func() (any, api.Errno) { x, y, e := Replay(m, l); return []any{x, y}, e },
			"List":         func() (any, api.Errno) { return List(m, s, contest) },
			"Accepted":     func() (any, api.Errno) { return Accepted(m, s, contest) },
			"Reserves":     func() (any, api.Errno) { return Reserves(m, s, contest) },
			"Starters":     func() (any, api.Errno) { return Starters(m, s, contest) },
			"Teams":        func() (any, api.Errno) { return Teams(m, s, contest) },
			"Contests":     func() (any, api.Errno) { return Contests(m, s, athlete) },
			"Clashes":      func() (any, api.Errno) { return Clashes(m, s) },
			"Clubs":        func() (any, api.Errno) { return Clubs(m, s) },
			"Changed":      func() (any, api.Errno) { return Changed(m, l, other, contest) },
		} {
			got, e := f()
			if e == api.OK {
				fine[name]++
				continue
			}
			switch text := fmt.Sprintf("%+v", got); text {
			case "<nil>", "0", "false", "[]", fmt.Sprintf("%+v", State{}), fmt.Sprintf("%+v", []any{State{}, []Refusal{}}):
			default:
				t.Errorf("%s: %s beside the error %v", name, text, e)
			}
		}
	}
	if len(fine) < 18 {
		t.Errorf("without errors are %v alone", fine)
	}
}
