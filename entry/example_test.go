package entry

import (
	"fmt"
	"strconv"
	"testing"

	"stadion/api"
)

// check compares a result with what is wanted; nil and empty lists are equal.
func check(t *testing.T, what string, got, want any) {
	t.Helper()
	if g, w := fmt.Sprintf("%+v", got), fmt.Sprintf("%+v", want); g != w {
		t.Errorf("%s: got %s, want %s", what, g, w)
	}
}

func noMark(reason string) api.Mark { return api.Mark{Kind: "none", Reason: reason} }
func timeOf(n int) api.Mark         { return api.Mark{Kind: "time", Value: n} }
func lengthOf(n int) api.Mark       { return api.Mark{Kind: "length", Value: n} }
func pointsOf(n int) api.Mark       { return api.Mark{Kind: "points", Value: n} }

// exampleMeeting returns the meeting M of the chapter's examples.
func exampleMeeting() Meeting {
	return Meeting{Day: 8000, Opens: 7900, Closes: 7990, Limit: 2, Contests: []Contest{
		{Name: "sprint", Kind: "time", Least: 16, Most: 40, Places: 2, PerClub: 1, Standard: timeOf(120000)},
		{Name: "jump", Kind: "length", Least: 16, Most: 40, Places: 8, PerClub: 2, Standard: noMark("NM")},
		{Name: "relay", Kind: "time", Least: 16, Most: 40, Places: 8, PerClub: 1, Standard: noMark("NM"), Team: 2},
	}}
}

func clubAct(day int, club string) Act {
	return Act{Day: day, Kind: "club", Club: club}
}

func athleteAct(day int, athlete, club string, born int) Act {
	return Act{Day: day, Kind: "athlete", Athlete: athlete, Club: club, Category: "women", From: born}
}

func licenceAct(day int, athlete string, from, to int) Act {
	return Act{Day: day, Kind: "licence", Athlete: athlete, From: from, To: to}
}

func transferAct(day int, athlete, club string) Act {
	return Act{Day: day, Kind: "transfer", Athlete: athlete, Club: club}
}

func enterAct(day int, athlete, contest string, m api.Mark) Act {
	return Act{Day: day, Kind: "enter", Athlete: athlete, Contest: contest, Mark: m}
}

func withdrawAct(day int, athlete, contest string) Act {
	return Act{Day: day, Kind: "withdraw", Athlete: athlete, Contest: contest}
}

func checkAct(day int, athlete, contest string) Act {
	return Act{Day: day, Kind: "check", Athlete: athlete, Contest: contest}
}

func teamAct(day int, club, contest string, names ...string) Act {
	return Act{Day: day, Kind: "team", Club: club, Contest: contest, Names: names}
}

// exampleActs returns the acts of the second example.
func exampleActs() []Act {
	return []Act{
		clubAct(7000, "A"), clubAct(7000, "B"),
		athleteAct(7000, "ann", "A", 1000), athleteAct(7000, "amy", "A", 1000), athleteAct(7000, "bea", "B", 1000),
		licenceAct(7000, "ann", 7000, 9000), licenceAct(7000, "amy", 7000, 9000), licenceAct(7000, "bea", 7000, 9000),
		enterAct(7950, "ann", "sprint", timeOf(115000)), enterAct(7950, "amy", "sprint", timeOf(112000)), enterAct(7950, "bea", "sprint", timeOf(119000)),
	}
}

// exampleState returns the state after the acts of the second example, and some more.
func exampleState(t *testing.T, more ...Act) State {
	t.Helper()
	s, refused, e := Replay(exampleMeeting(), append(exampleActs(), more...))
	if len(refused) > 0 || e != api.OK {
		t.Fatalf("the acts of the example: %v and %v", refused, e)
	}
	return s
}

// numbered returns as many names, each one different.
func numbered(n int) []string {
	names := make([]string, n)
	for i := range names {
		names[i] = "n" + strconv.Itoa(i)
	}
	return names
}

// repeated returns a list of as many equal elements.
func repeated[T any](x T, n int) []T {
	l := make([]T, n)
	for i := range l {
		l[i] = x
	}
	return l
}

// rung is an error of something that has several ones, and what takes this one away.
type rung[T any] struct {
	want api.Errno
	fix  func(x *T)
}

// climb checks that the errors of x come in the order of the rungs, and that there are no other ones.
func climb[T any](t *testing.T, what string, x T, e func(x T) api.Errno, rungs ...rung[T]) {
	t.Helper()
	for i, r := range rungs {
		if got := e(x); got != r.want {
			t.Fatalf("%s, the error %d: got %v, want %v", what, i, got, r.want)
		}
		r.fix(&x)
	}
	check(t, what+" without errors", e(x), api.OK)
}

// wrongMeetings has for some errors a meeting with it.
func wrongMeetings() map[api.Errno]Meeting {
	twice := exampleMeeting()
	twice.Contests[2].Name = "jump"
	return map[api.Errno]Meeting{
		api.ErrRange: {Day: -1},
		api.ErrOrder: {Opens: 1},
		api.ErrMany:  {Contests: make([]Contest, 33)},
		api.ErrName:  {Contests: make([]Contest, 1)},
		api.ErrTwice: twice,
	}
}

// checkOffice checks that a function of a meeting and a state returns the errors of both first, and nothing beside them.
func checkOffice(t *testing.T, what string, f func(m Meeting, s State) (any, api.Errno)) {
	t.Helper()
	wrong := State{Clubs: []string{"A", "A"}}
	for want, m := range wrongMeetings() {
		_, e := f(m, wrong)
		check(t, what+" with a wrong meeting", e, want)
	}
	_, e := f(exampleMeeting(), wrong)
	check(t, what+" with a club twice", e, api.ErrTwice)
	_, e = f(exampleMeeting(), State{Athletes: make([]api.Athlete, 257)})
	check(t, what+" with a large state", e, api.ErrMany)
	got, e := f(exampleMeeting(), State{Athletes: []api.Athlete{{Name: "ann", Club: "A"}}})
	check(t, what+" with an unknown club", e, api.ErrUnknown)
	if text := fmt.Sprintf("%+v", got); text != "[]" && text != "{Clubs:[] Athletes:[] Licences:[] Entries:[] Teams:[]}" && text != "<nil>" {
		t.Errorf("%s: %s beside an error", what, text)
	}
}
