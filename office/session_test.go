package office

import (
	"fmt"
	"strings"
	"testing"

	"stadion/api"
)

// dialogue is a line for a session, and its answer or its error.
type dialogue struct {
	line   string
	answer string
	e      api.Errno
}

// checkDialogue checks the answers of a session, and that what has an error changes nothing.
func checkDialogue(t *testing.T, s *Session, dialogues ...dialogue) {
	t.Helper()
	for _, x := range dialogues {
		before := s.Log()
		answer, e := s.Do(x.line)
		checkBoth(t, fmt.Sprintf("%.50q", x.line), answer, e, x.answer, x.e)
		if !strings.HasPrefix(x.answer, "done") {
			check(t, fmt.Sprintf("the log after %.50q", x.line), s.Log(), before)
		}
	}
}

// told returns a session that has accepted lines.
func told(t *testing.T, lines ...string) *Session {
	t.Helper()
	s := New()
	for i, line := range lines {
		if answer, e := s.Do(line); answer != fmt.Sprint("done ", i+1) || e != api.OK {
			t.Fatalf("%.50q: the answer %q and the error %v", line, answer, e)
		}
	}
	return s
}

func TestAnswers(t *testing.T) {
	checkDialogue(t, New(), dialogue{"races", "none", api.OK}, dialogue{"protests", "none", api.OK}, dialogue{"sheet final", "", api.ErrUnknown}, dialogue{"places final", "", api.ErrUnknown})
	checkDialogue(t, told(t, example(3, "publish heat ann=DNS bea=NM", "publish jump ann=7.005m", "publish all ann=1:02.0345 bea=59.9", "confirm all", "protest final bea", "publish dec ann=7000p bea=7000p cat=8000p dan=NM", "strike heat ann", "void jump")...),
		dialogue{"races", "final heat jump all dec", api.OK}, dialogue{"protests", "2:decided:yes 8:open:no", api.OK},
		dialogue{"sheet final", "2 provisional ann=10.50 bea=DQ cat=DNF", api.OK}, dialogue{"places final", "1.ann", api.OK},
		dialogue{"sheet heat", "2 provisional ann=DQ bea=NM", api.OK}, dialogue{"places heat", "none", api.OK},
		dialogue{"sheet jump", "2 void ann=7.005m", api.OK}, dialogue{"places jump", "", api.ErrState},
		dialogue{"sheet all", "2 official ann=1:02.0345 bea=59.90", api.OK}, dialogue{"places all", "1.bea 2.ann", api.OK}, dialogue{"places dec", "1.cat 2.ann 2.bea", api.OK},
		dialogue{"appeal 2", "done 12", api.OK}, dialogue{"protests", "2:appealed:yes 8:open:no", api.OK}, dialogue{"rule 2 0", "done 13", api.OK}, dialogue{"protests", "2:final:no 8:open:no", api.OK},
		dialogue{"undo", "done 14", api.OK}, dialogue{"rule 2 1", "done 15", api.OK}, dialogue{"protests", "2:final:yes 8:open:no", api.OK})
}

func TestLinesThatAreNone(t *testing.T) {
	checkDialogue(t, told(t, example(2)...),
		dialogue{"", "", api.ErrSyntax}, dialogue{" ", "", api.ErrKind}, dialogue{" undo", "", api.ErrKind}, dialogue{"Undo", "", api.ErrKind}, dialogue{"undo\n", "", api.ErrKind}, dialogue{"note x", "", api.ErrKind}, dialogue{"sheets", "", api.ErrKind}, dialogue{"3 undo", "", api.ErrKind},
		dialogue{strings.Repeat("x", 8192), "", api.ErrKind}, dialogue{strings.Repeat("x", 8193), "", api.ErrLong}, dialogue{"undo" + strings.Repeat(" ", 8189), "", api.ErrLong}, dialogue{"undo" + strings.Repeat(" ", 8188), "", api.ErrSyntax},
		dialogue{"races ", "", api.ErrSyntax}, dialogue{"races x", "", api.ErrSyntax}, dialogue{"protests ", "", api.ErrSyntax}, dialogue{"protests 2", "", api.ErrSyntax},
		dialogue{"sheet", "", api.ErrSyntax}, dialogue{"sheet ", "", api.ErrSyntax}, dialogue{"sheet  final", "", api.ErrSyntax}, dialogue{"sheet final ", "", api.ErrSyntax}, dialogue{"sheet final heat", "", api.ErrSyntax}, dialogue{"sheet heat x", "", api.ErrSyntax},
		dialogue{"places", "", api.ErrSyntax}, dialogue{"places ", "", api.ErrSyntax}, dialogue{"places final ", "", api.ErrSyntax}, dialogue{"sheet 1", "", api.ErrUnknown}, dialogue{"places \xff", "", api.ErrUnknown}, dialogue{"sheet final\n", "", api.ErrUnknown})
}

func TestEventsThatAreNone(t *testing.T) {
	checkDialogue(t, told(t, example(2)...),
		dialogue{"undo ", "", api.ErrSyntax}, dialogue{"undo x", "", api.ErrSyntax},
		dialogue{"void", "", api.ErrSyntax}, dialogue{"void ", "", api.ErrSyntax}, dialogue{"void final ", "", api.ErrSyntax}, dialogue{"void  final", "", api.ErrSyntax}, dialogue{"void final heat", "", api.ErrSyntax}, dialogue{"void 1", "", api.ErrName}, dialogue{"void final\n", "", api.ErrName}, dialogue{"void heat", "", api.ErrUnknown},
		dialogue{"confirm", "", api.ErrSyntax}, dialogue{"confirm final", "", api.ErrOpen}, dialogue{"strike final", "", api.ErrSyntax}, dialogue{"strike final ", "", api.ErrSyntax}, dialogue{"strike final 1", "", api.ErrName}, dialogue{"strike 1 ", "", api.ErrSyntax}, dialogue{"protest final bea cat", "", api.ErrSyntax}, dialogue{"protest final bea", "", api.ErrTwice}, dialogue{"reinstate final bea", "", api.ErrNone},
		dialogue{"decide", "", api.ErrSyntax}, dialogue{"decide 2", "", api.ErrSyntax}, dialogue{"decide 2 ", "", api.ErrSyntax}, dialogue{"decide 2  1", "", api.ErrSyntax}, dialogue{"decide 2 1 ", "", api.ErrSyntax}, dialogue{"decide 2 1 1", "", api.ErrSyntax}, dialogue{"decide 02 1", "", api.ErrSyntax}, dialogue{"decide 2 01", "", api.ErrSyntax},
		dialogue{"decide 2 +1", "", api.ErrSyntax}, dialogue{"decide 2 -1", "", api.ErrSyntax}, dialogue{"decide 2 -0", "", api.ErrSyntax}, dialogue{"decide 2 x", "", api.ErrSyntax}, dialogue{"decide 2 1\n", "", api.ErrSyntax}, dialogue{"decide 1000000000 1", "", api.ErrSyntax}, dialogue{"decide 999999999 1", "", api.ErrUnknown}, dialogue{"decide 2 999999999", "", api.ErrRange}, dialogue{"decide 0 0", "", api.ErrUnknown}, dialogue{"appeal 2 1", "", api.ErrSyntax}, dialogue{"appeal 2", "", api.ErrOpen}, dialogue{"rule 2 1", "", api.ErrState},
		dialogue{"publish", "", api.ErrSyntax}, dialogue{"publish heat", "", api.ErrSyntax}, dialogue{"publish  ann=1p", "", api.ErrSyntax}, dialogue{"publish heat ", "", api.ErrSyntax}, dialogue{"publish 1 ", "", api.ErrName}, dialogue{"publish heat  ann=1p", "", api.ErrSyntax}, dialogue{"publish heat ann=1p ", "", api.ErrSyntax}, dialogue{"publish heat 1=1p", "", api.ErrName}, dialogue{"publish final ann=1p", "", api.ErrTwice},
		dialogue{"publish heat ann=1p\n", "", api.ErrForm}, dialogue{"publish heat " + strings.Repeat("x", 4096), "", api.ErrSyntax}, dialogue{"publish heat " + strings.Repeat("x", 4097), "", api.ErrLong}, dialogue{"publish heat \n" + strings.Repeat("x", 4097), "", api.ErrForm},
		dialogue{"correct final ann", "", api.ErrSyntax}, dialogue{"correct heat ann ", "", api.ErrUnknown}, dialogue{"correct final ann ", "", api.ErrSyntax}, dialogue{"correct final  10.40", "", api.ErrSyntax}, dialogue{"correct final ann 10.40 ", "", api.ErrSyntax}, dialogue{"correct final ann 10.50", "", api.ErrTwice},
		dialogue{"correct final ann 10.4", "done 3", api.OK})
}

func TestEventsOfSessions(t *testing.T) {
	s := told(t, example(5, "correct final cat 10.5", "strike final ann", "reinstate final ann", "confirm final", "void final", "undo")...)
	check(t, "the events", s.Events(), exampleEvents())
	log := ""
	for _, body := range exampleBodies() {
		log += recordOf(body)
	}
	check(t, "the log", s.Log(), log)
	again, e := Load(s.Log())
	check(t, "Load", e, api.OK)
	check(t, "the loaded events", again.Events(), exampleEvents())
	checkDialogue(t, again, dialogue{"sheet final", "7 official ann=10.50 bea=10.40 cat=10.50", api.OK}, dialogue{"undo", "done 12", api.OK}, dialogue{"sheet final", "6 provisional ann=10.50 bea=10.40 cat=10.50", api.OK}, dialogue{"undo", "done 13", api.OK}, dialogue{"sheet final", "5 provisional ann=DQ bea=10.40 cat=10.50", api.OK})
	check(t, "the first session", s.Events(), exampleEvents())
	check(t, "a new session", []any{len(New().Events()), New().Log()}, []any{0, ""})
}

func TestFullSessions(t *testing.T) {
	s := told(t, toAndFro(1000)...)
	checkDialogue(t, s, dialogue{"undo", "", api.ErrMany}, dialogue{finalLine, "", api.ErrMany}, dialogue{"void 1", "", api.ErrMany}, dialogue{"void", "", api.ErrSyntax}, dialogue{"publish final \n", "", api.ErrMany}, dialogue{"races", "none", api.OK}, dialogue{"nothing", "", api.ErrKind})
	again, e := Load(s.Log())
	check(t, "Load", []any{e, len(again.Events())}, []any{api.OK, 1000})
	checkDialogue(t, again, dialogue{"undo", "", api.ErrMany})
	checkDialogue(t, told(t, toAndFro(999)...), dialogue{"races", "final", api.OK}, dialogue{"void 1", "", api.ErrName}, dialogue{"undo", "done 1000", api.OK}, dialogue{"undo", "", api.ErrMany})
}

// TestLogsThatAreTooLong has a session whose log is longer than one that can be loaded.
func TestLogsThatAreTooLong(t *testing.T) {
	line := "publish x " + strings.Join(repeated(160, func(i int) string { return named(i) + "=1:02:03.45" }), " ")
	s := told(t, repeated(1000, func(i int) string { return []string{line, "undo"}[i%2] })...)
	check(t, "whether the log is too long", len(s.Log()) > 1000000, true)
	got, e := Load(s.Log())
	check(t, "Load", []any{got == nil, e}, []any{true, api.ErrLong})
}

func TestLoad(t *testing.T) {
	log := recordOf("1 publish final ann=10.50 bea=10.40 cat=DNF") + recordOf("2 protest final bea")
	third := recordOf("3 decide 2 1")
	for i, x := range []struct {
		log   string
		count int
		e     api.Errno
	}{
		{"", 0, api.OK}, {log, 2, api.OK}, {log + third, 3, api.OK}, {log + third[:len(third)-1], 2, api.OK}, {log + "x", 2, api.OK}, {"x", 0, api.OK},
		{log + "x\n", 0, api.ErrSyntax}, {log + "aaaaa 3 undo\n", 0, api.ErrCheck}, {log + recordOf("2 undo"), 0, api.ErrOrder}, {log + recordOf("3 undo "), 0, api.ErrSyntax}, {strings.Repeat("x", 1000001), 0, api.ErrLong}, {strings.Repeat("x", 1000000), 0, api.OK},
		{recordOf("1 undo"), 0, api.ErrEmpty}, {log + recordOf("3 confirm final"), 0, api.ErrOpen}, {log + recordOf("3 confirm final") + "x", 0, api.ErrOpen}, {log + recordOf("3 confirm final") + "x\n", 0, api.ErrSyntax}, {recordOf("1 publish final "), 0, api.ErrSyntax},
	} {
		s, e := Load(x.log)
		check(t, fmt.Sprint("Load of the log ", i), []any{s == nil, e}, []any{x.e != api.OK, x.e})
		if s != nil {
			check(t, fmt.Sprint("the events of the log ", i), s.Events(), events(example(3)...)[:x.count])
		}
	}
}

func TestNilSession(t *testing.T) {
	var s *Session
	for _, line := range []string{"undo", "races", "", "nothing", strings.Repeat("x", 8193)} {
		answer, e := s.Do(line)
		checkBoth(t, "Do", answer, e, nil, api.ErrState)
	}
	check(t, "Events and Log", []any{len(s.Events()), s.Log()}, []any{0, ""})
}

// TestOwnEvents changes the events that a session has given.
func TestOwnEvents(t *testing.T) {
	s := told(t, example(5)...)
	l := s.Events()
	l[0].Names[0], l[2].Values[1], l[4] = "heat", 0, api.Event{}
	check(t, "the events", s.Events(), events(example(5)...))
}
