package office

import (
	"fmt"
	"math"
	"slices"
	"strings"
	"testing"

	"stadion/api"
)

// shapes has for each kind how many names and values its events have, and 1 if they have a text.
func shapes() map[string][3]int {
	return map[string][3]int{
		"publish": {1, 0, 1}, "correct": {2, 0, 1}, "strike": {2, 0, 0}, "reinstate": {2, 0, 0}, "protest": {2, 0, 0},
		"decide": {0, 2, 0}, "appeal": {0, 1, 0}, "rule": {0, 2, 0}, "confirm": {1, 0, 0}, "void": {1, 0, 0}, "undo": {0, 0, 0},
	}
}

// shaped returns an event with so many names and values.
func shaped(kind string, names, values int) api.Event {
	return api.Event{Number: 1, Kind: kind, Names: repeated(names, named), Values: repeated(values, func(i int) int { return i })}
}

func TestShapesOfEvents(t *testing.T) {
	for kind, shape := range shapes() {
		for names := range 4 {
			for values := range 4 {
				want := api.ErrShape
				if names == shape[0] && values == shape[1] {
					want = api.OK
				}
				check(t, fmt.Sprint(kind, " with ", names, " names and ", values, " values"), CheckEvent(shaped(kind, names, values)), want)
			}
		}
	}
}

func TestTextsOfEvents(t *testing.T) {
	for kind, shape := range shapes() {
		for text, wants := range map[string][2]api.Errno{
			"": {api.OK, api.OK}, "x": {api.ErrForm, api.OK}, "a b = \r\t\x00\xff": {api.ErrForm, api.OK}, "x\n": {api.ErrForm, api.ErrForm}, "\n": {api.ErrForm, api.ErrForm},
			strings.Repeat("x", 4096): {api.ErrForm, api.OK}, strings.Repeat("x", 4097): {api.ErrForm, api.ErrLong}, strings.Repeat("x", 4096) + "\n": {api.ErrForm, api.ErrForm},
		} {
			e := shaped(kind, shape[0], shape[1])
			e.Text = text
			check(t, fmt.Sprintf("%s with the text %.9q", kind, text), CheckEvent(e), wants[shape[2]])
		}
	}
}

func TestErrorsOfEvents(t *testing.T) {
	for kind, shape := range shapes() {
		bad := shaped("x", 3, 3)
		bad.Number, bad.Text = 0, "\n"+strings.Repeat("x", 4097)
		rungs := []rung[api.Event]{
			{api.ErrRange, func(e *api.Event) { e.Number = 1001 }},
			{api.ErrRange, func(e *api.Event) { e.Number = math.MinInt }},
			{api.ErrRange, func(e *api.Event) { e.Number = 1000 }},
			{api.ErrKind, func(e *api.Event) { e.Kind = strings.ToUpper(kind) }},
			{api.ErrKind, func(e *api.Event) { e.Kind = kind }},
			{api.ErrShape, func(e *api.Event) {
				e.Names, e.Values = slices.Repeat([]string{"1"}, shape[0]), slices.Repeat([]int{-1}, shape[1])
			}},
		}
		for i := range shape[0] {
			rungs = append(rungs,
				rung[api.Event]{api.ErrName, func(e *api.Event) { e.Names[i] = strings.Repeat("a", 25) }},
				rung[api.Event]{api.ErrName, func(e *api.Event) { e.Names[i] = strings.Repeat("a", 24) }})
		}
		for i := range shape[1] {
			rungs = append(rungs,
				rung[api.Event]{api.ErrRange, func(e *api.Event) { e.Values[i] = 1000000000 }},
				rung[api.Event]{api.ErrRange, func(e *api.Event) { e.Values[i] = 999999999 }})
		}
		rungs = append(rungs, rung[api.Event]{api.ErrForm, func(e *api.Event) { e.Text = strings.Repeat("x", 4097*shape[2]) }})
		if shape[2] == 1 {
			rungs = append(rungs, rung[api.Event]{api.ErrLong, func(e *api.Event) { e.Text = e.Text[1:] }})
		}
		climb(t, kind, bad, CheckEvent, rungs...)
	}
}

// step is what an event does after those of some lines: the error, or what has changed from the office before.
type step struct {
	before []string
	line   string
	want   api.Errno
	change func(o *Office)
}

func checkSteps(t *testing.T, steps ...step) {
	t.Helper()
	for _, x := range steps {
		what := fmt.Sprintf("%q after %q", x.line, x.before)
		want := after(t, x.before...)
		e := event(len(x.before)+1, x.line)
		l := append(events(x.before...), e)
		check(t, what+", the error", Accepts(l[:len(x.before)], e), x.want)
		got, place, err := Replay(l)
		if x.want != api.OK {
			check(t, what, []any{got, place, err}, []any{Office{}, len(l), x.want})
			continue
		}
		if x.change != nil {
			x.change(&want)
		}
		check(t, what, []any{got, place, err}, []any{want, 0, api.OK})
		check(t, what+", the office", CheckOffice(got), api.OK)
	}
}

func refused(line string, e api.Errno, before ...string) step { return step{before, line, e, nil} }

func TestPublish(t *testing.T) {
	texts := map[string]api.Errno{
		"ann=10.50": api.OK, "ann=DQ": api.OK, "ann=1.00m bea=NM cat=2.00m": api.OK, "ann=7p": api.OK, "ann=9.5": api.OK,
		"": api.ErrSyntax, " ": api.ErrSyntax, "ann": api.ErrSyntax, "=10.50": api.ErrSyntax, "ann=": api.ErrSyntax, "ann==10.50": api.ErrSyntax, "ann=10.50=": api.ErrSyntax,
		" ann=10.50": api.ErrSyntax, "ann=10.50 ": api.ErrSyntax, "ann=10.50  bea=10.40": api.ErrSyntax, "ann=10.50\tbea=10.40": api.ErrSyntax, "ann=10.50,bea=10.40": api.ErrSyntax,
		"ann=61.00": api.ErrRange, "ann=61.00 bea=x": api.ErrRange, "ann=x bea=61.00": api.ErrSyntax, "ann=61.00 bea": api.ErrSyntax, "ann=61.00 =x": api.ErrSyntax, "ann=61.00 ": api.ErrSyntax,
		"ann=" + strings.Repeat("1", 24): api.ErrSyntax, "ann=" + strings.Repeat("1", 25): api.ErrLong, "1=10.50": api.ErrName, "1=61.00": api.ErrRange, "a\xff=1p": api.ErrName,
		"ann=10.50 ann=61.00": api.ErrRange, "ann=10.50 ann=10.50": api.ErrTwice, "ann=10.50 bea=1.00m": api.ErrKind, "ann=0p bea=DNF cat=10.50": api.ErrKind,
		"ann=0.00": api.ErrRange, "ann=100000p": api.ErrRange,
	}
	for text, want := range texts {
		check(t, fmt.Sprintf("the text %q", text), Accepts(nil, api.Event{Number: 1, Kind: "publish", Names: []string{"final"}, Text: text}), want)
		check(t, fmt.Sprintf("the text %q twice", text), Accepts(events(finalLine), api.Event{Number: 2, Kind: "publish", Names: []string{"final"}, Text: text}), api.ErrTwice)
	}
	athletes := func(n int) string {
		return "publish big " + strings.Join(repeated(n, func(i int) string { return named(i) + "=DNS" }), " ")
	}
	further := func(o *Office) {
		o.Sheets = append(o.Sheets, Sheet{"heat", 1, "provisional", []api.Result{{Athlete: "b", Mark: leap(1005)}, {Athlete: "a", Mark: none("NM")}}})
	}
	checkSteps(t,
		step{nil, finalLine, api.OK, func(o *Office) { o.Sheets = []Sheet{final()} }},
		step{example(5), "publish heat b=1.005m a=NM", api.OK, further},
		refused(athletes(161), api.ErrMany), refused(finalLine, api.ErrTwice, finalLine, "void final"),
		step{[]string{finalLine, "undo"}, finalLine, api.OK, func(o *Office) { o.Sheets = []Sheet{final()} }})
	check(t, "160 athletes", len(after(t, athletes(160)).Sheets[0].Results), 160)
}

func TestMostSheets(t *testing.T) {
	l := repeated(64, func(i int) string { return "publish " + named(i) + " ann=1p" })
	check(t, "64 sheets", len(after(t, l...).Sheets), 64)
	checkSteps(t,
		refused("publish x64 ann=1p", api.ErrMany, l...), refused("publish x63 ann=1p", api.ErrTwice, l...), refused("publish x64 ann=x", api.ErrSyntax, l...), refused("publish x64 1=1p", api.ErrName, l...),
		step{slices.Concat(l, []string{"undo"}), "publish y ann=1p", api.OK, func(o *Office) {
			o.Sheets = append(o.Sheets, Sheet{"y", 1, "provisional", []api.Result{{Athlete: "ann", Mark: pointed(1)}}})
		}})
}

func TestCorrect(t *testing.T) {
	to := func(place int, m api.Mark) func(o *Office) {
		return func(o *Office) { o.Sheets[0].Version++; o.Sheets[0].Results[place].Mark = m }
	}
	checkSteps(t,
		step{example(1), "correct final ann 10.45", api.OK, to(0, run(104500))},
		step{example(1), "correct final cat 10.5", api.OK, to(2, run(105000))},
		step{example(1), "correct final cat DNS", api.OK, to(2, none("DNS"))},
		step{example(1), "correct final bea DQ", api.OK, to(1, none("DQ"))},
		step{example(2), "correct final bea 10.41", api.OK, to(1, run(104100))},
		step{example(5), "correct final bea 10.41", api.OK, to(1, run(104100))},
		step{example(1, "confirm final"), "correct final ann 10.45", api.OK, to(0, run(104500))},
		step{[]string{"publish final ann=10.50 bea=DNS"}, "correct final ann 1.00m", api.OK, to(0, leap(1000))},
		step{[]string{"publish final ann=DQ"}, "correct final ann 1p", api.OK, to(0, pointed(1))},
		refused("correct heat ann x", api.ErrUnknown, example(1)...), refused("correct final dan x", api.ErrUnknown, example(1)...), refused("correct final ann x", api.ErrUnknown),
		refused("correct final dan x", api.ErrUnknown, example(3, "void final")...),
		refused("correct final ann x", api.ErrState, example(1, "void final")...), refused("correct final bea x", api.ErrState, example(3)...), refused("correct final bea DQ", api.ErrState, example(3)...),
		refused("correct final ann 10.50", api.ErrState, example(1, "void final")...),
		refused("correct final ann x", api.ErrSyntax, example(1)...), refused("correct final ann ", api.ErrSyntax, example(1)...), refused("correct final ann 10.45 ", api.ErrSyntax, example(1)...),
		refused("correct final ann 61.00", api.ErrRange, example(1)...), refused("correct final ann 1111111111111111111111111", api.ErrLong, example(1)...),
		refused("correct final ann 10.50", api.ErrTwice, example(1)...), refused("correct final ann 10.5", api.ErrTwice, example(1)...), refused("correct final cat DNF", api.ErrTwice, example(1)...),
		refused("correct final ann 1.00m", api.ErrKind, example(1)...), refused("correct final cat 10p", api.ErrKind, example(1)...))
}

func TestStrike(t *testing.T) {
	struck := func(place int) func(o *Office) {
		return func(o *Office) {
			r := &o.Sheets[0].Results[place]
			o.Strikes = append(o.Strikes, Strike{"final", r.Athlete, r.Mark})
			o.Sheets[0].Version++
			r.Mark = none("DQ")
		}
	}
	checkSteps(t,
		step{example(1), "strike final ann", api.OK, struck(0)}, step{example(3), "strike final ann", api.OK, struck(0)}, step{example(3), "strike final cat", api.OK, struck(2)},
		step{example(1, "confirm final"), "strike final bea", api.OK, struck(1)}, step{[]string{"publish final ann=DQ"}, "strike final ann", api.OK, struck(0)}, step{example(5), "strike final bea", api.OK, struck(1)},
		refused("strike heat ann", api.ErrUnknown, example(1)...), refused("strike final dan", api.ErrUnknown, example(1, "void final")...),
		refused("strike final ann", api.ErrState, example(1, "void final")...), refused("strike final bea", api.ErrState, example(3, "void final")...),
		refused("strike final bea", api.ErrTwice, example(3)...))
}

func TestReinstate(t *testing.T) {
	two := example(3, "publish heat bea=9.90", "strike heat bea", "strike final cat")
	checkSteps(t,
		step{example(3), "reinstate final bea", api.OK, func(o *Office) { o.Sheets[0], o.Strikes = final(version(3)), nil }},
		step{two, "reinstate final bea", api.OK, func(o *Office) {
			o.Sheets[0].Version, o.Sheets[0].Results[1].Mark = 4, run(104000)
			o.Strikes = o.Strikes[1:]
		}},
		step{two, "reinstate heat bea", api.OK, func(o *Office) {
			o.Sheets[1].Version, o.Sheets[1].Results[0].Mark = 3, run(99000)
			o.Strikes = slices.Delete(o.Strikes, 1, 2)
		}},
		step{two, "reinstate final cat", api.OK, func(o *Office) {
			o.Sheets[0].Version, o.Sheets[0].Results[2].Mark = 4, none("DNF")
			o.Strikes = o.Strikes[:2]
		}},
		step{example(3, "confirm final"), "reinstate final bea", api.OK, func(o *Office) {
			o.Sheets[0], o.Strikes = final(version(4), func(s *Sheet) { s.State = "official" }), nil
		}},
		refused("reinstate heat bea", api.ErrUnknown, example(3)...), refused("reinstate final dan", api.ErrUnknown, example(3, "void final")...),
		refused("reinstate final bea", api.ErrState, example(3, "void final")...), refused("reinstate final ann", api.ErrState, example(3, "void final")...),
		refused("reinstate final ann", api.ErrNone, example(3)...), refused("reinstate final bea", api.ErrNone, example(5)...), refused("reinstate final ann", api.ErrNone, "publish final ann=DQ"),
		refused("reinstate final ann", api.ErrKind, "publish final ann=10.50 bea=DNF", "strike final ann", "correct final bea 5.00m"))
}

func TestProtest(t *testing.T) {
	further := func(p Protest) func(o *Office) { return func(o *Office) { o.Protests = append(o.Protests, p) } }
	checkSteps(t,
		step{example(1), "protest final ann", api.OK, further(Protest{2, "final", "ann", "open", false})},
		step{example(2), "protest final ann", api.OK, further(Protest{3, "final", "ann", "open", false})},
		step{example(2, "publish heat bea=1p"), "protest heat bea", api.OK, further(Protest{4, "heat", "bea", "open", false})},
		step{example(3), "protest final bea", api.OK, further(Protest{4, "final", "bea", "open", false})},
		step{example(5), "protest final bea", api.OK, further(Protest{6, "final", "bea", "open", false})},
		step{example(1, "undo", finalLine), "protest final cat", api.OK, further(Protest{4, "final", "cat", "open", false})},
		refused("protest heat bea", api.ErrUnknown, example(1)...), refused("protest final dan", api.ErrUnknown, example(1, "void final")...),
		refused("protest final ann", api.ErrState, example(1, "confirm final")...), refused("protest final ann", api.ErrState, example(1, "void final")...), refused("protest final bea", api.ErrState, example(2, "void final")...),
		refused("protest final bea", api.ErrTwice, example(2)...), refused("protest final bea", api.ErrTwice, example(4)...), refused("protest final bea", api.ErrTwice, example(3, "protest final bea", "protest final ann")...))
}

func TestDecide(t *testing.T) {
	two := example(2, "protest final ann")
	decided := func(place int, upheld bool) func(o *Office) {
		return func(o *Office) { o.Protests[place].Stage, o.Protests[place].Upheld = "decided", upheld }
	}
	checkSteps(t,
		step{example(2), "decide 2 0", api.OK, decided(0, false)}, step{two, "decide 3 0", api.OK, decided(1, false)},
		step{example(2), "decide 2 1", api.OK, func(o *Office) { *o = after(t, example(3)...) }},
		step{two, "decide 3 1", api.OK, func(o *Office) {
			decided(1, true)(o)
			o.Strikes = []Strike{{"final", "ann", run(105000)}}
			o.Sheets[0].Version, o.Sheets[0].Results[0].Mark = 2, none("DQ")
		}},
		step{example(2, "strike final bea"), "decide 2 1", api.OK, decided(0, true)}, step{example(2, "strike final bea"), "decide 2 0", api.OK, decided(0, false)},
		refused("decide 1 2", api.ErrUnknown, example(2)...), refused("decide 3 2", api.ErrUnknown, example(2, "void final")...), refused("decide 0 0", api.ErrUnknown),
		refused("decide 2 2", api.ErrRange, example(2)...), refused("decide 2 999999999", api.ErrRange, example(2, "void final")...), refused("decide 2 2", api.ErrRange, example(3)...),
		refused("decide 2 1", api.ErrState, example(2, "void final")...), refused("decide 2 1", api.ErrState, example(3, "void final")...),
		refused("decide 2 1", api.ErrOver, example(3)...), refused("decide 2 0", api.ErrOver, example(4)...), refused("decide 2 0", api.ErrOver, example(5)...))
}

func TestAppeal(t *testing.T) {
	appealed := func(o *Office) { o.Protests[0].Stage = "appealed" }
	checkSteps(t,
		step{example(3), "appeal 2", api.OK, appealed}, step{example(2, "decide 2 0"), "appeal 2", api.OK, appealed},
		refused("appeal 1", api.ErrUnknown, example(2)...), refused("appeal 3", api.ErrUnknown, example(3, "void final")...), refused("appeal 2", api.ErrUnknown),
		refused("appeal 2", api.ErrState, example(2, "void final")...), refused("appeal 2", api.ErrState, example(4, "void final")...),
		refused("appeal 2", api.ErrOpen, example(2)...), refused("appeal 2", api.ErrOver, example(4)...), refused("appeal 2", api.ErrOver, example(5)...), refused("appeal 2", api.ErrOver, example(5, "confirm final")...),
		refused("appeal 2", api.ErrState, example(3, "confirm final")...))
}

func TestRule(t *testing.T) {
	at := func(place int, upheld bool) func(o *Office) {
		return func(o *Office) { o.Protests[place].Stage, o.Protests[place].Upheld = "final", upheld }
	}
	reinstated := func(place, version int) func(o *Office) {
		return func(o *Office) {
			at(place, false)(o)
			o.Sheets[0].Version, o.Sheets[0].Results[1].Mark, o.Strikes = version, run(104000), nil
		}
	}
	struckAgain := func(version int) func(o *Office) {
		return func(o *Office) {
			at(0, true)(o)
			o.Sheets[0].Version, o.Sheets[0].Results[1].Mark, o.Strikes = version, none("DQ"), []Strike{{"final", "bea", run(104000)}}
		}
	}
	denied := example(2, "decide 2 0", "appeal 2")
	otherUpheld := example(3, "protest final bea", "decide 4 1", "appeal 2")
	checkSteps(t,
		step{example(4), "rule 2 1", api.OK, at(0, true)}, step{example(4), "rule 2 0", api.OK, reinstated(0, 3)},
		step{denied, "rule 2 0", api.OK, at(0, false)}, step{denied, "rule 2 1", api.OK, struckAgain(2)},
		step{example(3, "reinstate final bea", "appeal 2"), "rule 2 1", api.OK, struckAgain(4)}, step{example(3, "reinstate final bea", "appeal 2"), "rule 2 0", api.OK, at(0, false)},
		step{slices.Concat(denied, []string{"strike final bea"}), "rule 2 0", api.OK, at(0, false)}, step{slices.Concat(denied, []string{"strike final bea"}), "rule 2 1", api.OK, at(0, true)},
		step{otherUpheld, "rule 2 0", api.OK, at(0, false)}, step{slices.Concat(otherUpheld, []string{"rule 2 0", "appeal 4"}), "rule 4 0", api.OK, reinstated(1, 3)},
		step{example(3, "protest final bea", "decide 4 0", "appeal 2"), "rule 2 0", api.OK, reinstated(0, 3)},
		step{example(3, "protest final bea", "appeal 2"), "rule 2 0", api.OK, reinstated(0, 3)},
		step{example(3, "protest final cat", "decide 4 1", "appeal 2"), "rule 2 0", api.OK, func(o *Office) {
			at(0, false)(o)
			o.Sheets[0].Version, o.Sheets[0].Results[1].Mark, o.Strikes = 4, run(104000), o.Strikes[1:]
		}},
		step{example(3, "publish heat bea=1p", "protest heat bea", "decide 5 1", "appeal 2"), "rule 2 0", api.OK, func(o *Office) {
			at(0, false)(o)
			o.Sheets[0].Version, o.Sheets[0].Results[1].Mark, o.Strikes = 3, run(104000), o.Strikes[1:]
		}},
		refused("rule 1 2", api.ErrUnknown, example(4)...), refused("rule 3 2", api.ErrUnknown, example(4, "void final")...), refused("rule 2 2", api.ErrRange, example(4, "void final")...), refused("rule 2 2", api.ErrRange, example(3)...),
		refused("rule 2 1", api.ErrState, example(4, "void final")...), refused("rule 2 1", api.ErrState, example(2)...), refused("rule 2 1", api.ErrState, example(3)...), refused("rule 2 0", api.ErrState, example(5)...),
		refused("rule 2 0", api.ErrKind, "publish final bea=10.40 ann=DNF", "protest final bea", "decide 2 1", "correct final ann 5.00m", "appeal 2"))
	checkSteps(t, step{[]string{"publish final bea=10.40 ann=DNF", "protest final bea", "decide 2 1", "correct final ann 5.00m", "appeal 2"}, "rule 2 1", api.OK, at(0, true)})
}

func TestConfirmAndVoid(t *testing.T) {
	into := func(state string) func(o *Office) {
		return func(o *Office) { o.Sheets[0].Version++; o.Sheets[0].State = state }
	}
	checkSteps(t,
		step{example(1), "confirm final", api.OK, into("official")}, step{example(3), "confirm final", api.OK, into("official")}, step{example(5), "confirm final", api.OK, into("official")},
		step{example(2, "publish heat ann=1p", "publish race ann=1p"), "confirm heat", api.OK, func(o *Office) { o.Sheets[1].Version, o.Sheets[1].State = 2, "official" }},
		refused("confirm heat", api.ErrUnknown, example(1)...), refused("confirm final", api.ErrUnknown),
		refused("confirm final", api.ErrState, example(1, "void final")...), refused("confirm final", api.ErrState, example(2, "void final")...), refused("confirm final", api.ErrState, example(4, "void final")...),
		refused("confirm final", api.ErrTwice, example(1, "confirm final")...), refused("confirm final", api.ErrOpen, example(2)...), refused("confirm final", api.ErrOpen, example(4)...),
		refused("confirm final", api.ErrOpen, example(3, "protest final ann")...), refused("confirm final", api.ErrOpen, example(2, "protest final ann", "decide 2 0")...),
		step{example(1), "void final", api.OK, into("void")}, step{example(4), "void final", api.OK, into("void")}, step{example(3, "confirm final"), "void final", api.OK, into("void")},
		refused("void heat", api.ErrUnknown, example(1)...), refused("void final", api.ErrTwice, example(1, "void final")...))
}
