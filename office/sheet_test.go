package office

import (
	"fmt"
	"math"
	"strings"
	"testing"

	"stadion/api"
)

func TestCheckSheet(t *testing.T) {
	bad := Sheet{"1", 0, "final", []api.Result{{Athlete: "", Mark: api.Mark{Kind: "time", Reason: "DQ"}}, {}}}
	climb(t, "a sheet", bad, CheckSheet,
		rung[Sheet]{api.ErrName, func(s *Sheet) { s.Race = "final" }},
		rung[Sheet]{api.ErrRange, func(s *Sheet) { s.Version = 1 }},
		rung[Sheet]{api.ErrKind, func(s *Sheet) { s.State = "void" }},
		rung[Sheet]{api.ErrName, func(s *Sheet) { s.Results[0].Athlete = "ann" }},
		rung[Sheet]{api.ErrForm, func(s *Sheet) { s.Results[0].Mark.Reason = "" }},
		rung[Sheet]{api.ErrRange, func(s *Sheet) { s.Results[0].Mark.Value = 1 }},
		rung[Sheet]{api.ErrName, func(s *Sheet) { s.Results[1].Athlete = "ann" }},
		rung[Sheet]{api.ErrTwice, func(s *Sheet) { s.Results[1].Athlete = "bea" }},
		rung[Sheet]{api.ErrKind, func(s *Sheet) { s.Results[1].Mark = leap(-1) }},
		rung[Sheet]{api.ErrRange, func(s *Sheet) { s.Results[1].Mark.Value = 1 }},
		rung[Sheet]{api.ErrKind, func(s *Sheet) { s.Results[1].Mark = none("") }},
		rung[Sheet]{api.ErrForm, func(s *Sheet) { s.Results[1].Mark = none("NM") }})
	climb(t, "a sheet of wrong results", Sheet{"final", 1, "", make([]api.Result, 161)}, CheckSheet,
		rung[Sheet]{api.ErrKind, func(s *Sheet) { s.State = "void" }},
		rung[Sheet]{api.ErrMany, func(s *Sheet) { s.Results, s.State = nil, "" }},
		rung[Sheet]{api.ErrKind, func(s *Sheet) { s.State = "void" }},
		rung[Sheet]{api.ErrEmpty, func(s *Sheet) { s.Results = final().Results }})
}

func TestCheckSheetAtItsLimits(t *testing.T) {
	results := func(n int) func(s *Sheet) {
		return func(s *Sheet) {
			s.Results = repeated(n, func(i int) api.Result { return api.Result{Athlete: named(i), Mark: run(1)} })
		}
	}
	state := func(name string) func(s *Sheet) { return func(s *Sheet) { s.State = name } }
	for i, x := range []struct {
		change func(s *Sheet)
		want   api.Errno
	}{
		{race(strings.Repeat("a", 24)), api.OK}, {race(strings.Repeat("a", 25)), api.ErrName}, {race(""), api.ErrName}, {race("a b"), api.ErrName},
		{version(1), api.OK}, {version(1000), api.OK}, {version(0), api.ErrRange}, {version(1001), api.ErrRange}, {version(math.MinInt), api.ErrRange},
		{state("official"), api.OK}, {state("void"), api.OK}, {state(""), api.ErrKind}, {state("Void"), api.ErrKind},
		{results(1), api.OK}, {results(160), api.OK}, {results(161), api.ErrMany},
	} {
		check(t, fmt.Sprint("the sheet ", i), CheckSheet(final(x.change)), x.want)
	}
}

// TestKindsOfMarks puts marks of each kind behind one of another, with marks of the kind none in between.
func TestKindsOfMarks(t *testing.T) {
	for i, a := range []api.Mark{run(1), leap(1), pointed(1), none("DNS")} {
		for j, b := range []api.Mark{run(2), leap(2), pointed(2), none("NM")} {
			s := final(func(s *Sheet) { s.Results[0].Mark, s.Results[1].Mark, s.Results[2].Mark = a, none("DQ"), b })
			want := api.ErrKind
			if i == j || i == 3 || j == 3 {
				want = api.OK
			}
			check(t, fmt.Sprint("the kinds of ", a, " and ", b), CheckSheet(s), want)
		}
	}
}

// anOffice returns an office of two races with two strikes and three protests.
func anOffice() Office {
	return Office{
		[]Sheet{final(struckBea), final(race("heat"), struckBea)},
		[]Strike{{"heat", "bea", run(1)}, {"final", "bea", leap(5000)}},
		[]Protest{{3, "heat", "ann", "open", false}, {4, "final", "bea", "decided", true}, {9, "final", "bea", "appealed", true}},
	}
}

func TestCheckOffice(t *testing.T) {
	bad := Office{Sheets: make([]Sheet, 2), Strikes: make([]Strike, 3), Protests: make([]Protest, 4)}
	climb(t, "an office", bad, CheckOffice,
		rung[Office]{api.ErrName, func(o *Office) { o.Sheets[0] = final(struckBea) }},
		rung[Office]{api.ErrName, func(o *Office) { o.Sheets[1] = final(version(0)) }},
		rung[Office]{api.ErrRange, func(o *Office) { o.Sheets[1].Version = 7 }},
		rung[Office]{api.ErrTwice, func(o *Office) { o.Sheets[1].Race = "heat" }},
		rung[Office]{api.ErrUnknown, func(o *Office) { o.Strikes[0].Race = "final" }},
		rung[Office]{api.ErrUnknown, func(o *Office) { o.Strikes[0].Athlete = "ann" }},
		rung[Office]{api.ErrKind, func(o *Office) { o.Strikes[0].Mark = run(1) }},
		rung[Office]{api.ErrState, func(o *Office) { o.Strikes[0].Athlete = "bea" }},
		rung[Office]{api.ErrUnknown, func(o *Office) { o.Strikes[1] = Strike{"final", "bea", run(0)} }},
		rung[Office]{api.ErrTwice, func(o *Office) { o.Strikes[1].Race = "heat" }},
		rung[Office]{api.ErrRange, func(o *Office) { o.Strikes[1].Mark = run(1) }},
		rung[Office]{api.ErrState, func(o *Office) { o.Sheets[1].Results[1].Mark = none("DQ") }},
		rung[Office]{api.ErrUnknown, func(o *Office) { o.Strikes = o.Strikes[:2] }},
		rung[Office]{api.ErrRange, func(o *Office) { o.Protests[0].Number = 1001 }},
		rung[Office]{api.ErrRange, func(o *Office) { o.Protests[0].Number = 999 }},
		rung[Office]{api.ErrUnknown, func(o *Office) { o.Protests[0].Race = "final" }},
		rung[Office]{api.ErrUnknown, func(o *Office) { o.Protests[0].Athlete = "ann" }},
		rung[Office]{api.ErrKind, func(o *Office) { o.Protests[0].Stage = "final" }},
		rung[Office]{api.ErrRange, func(o *Office) { o.Protests[1] = Protest{999, "relay", "ann", "", true} }},
		rung[Office]{api.ErrOrder, func(o *Office) { o.Protests[1].Number = 1000 }},
		rung[Office]{api.ErrUnknown, func(o *Office) { o.Protests[1].Race = "heat" }},
		rung[Office]{api.ErrKind, func(o *Office) { o.Protests[1].Stage = "open" }},
		rung[Office]{api.ErrForm, func(o *Office) { o.Protests[1].Upheld = false }},
		rung[Office]{api.ErrRange, func(o *Office) { o.Protests[2] = o.Protests[0] }},
		rung[Office]{api.ErrOrder, func(o *Office) { o.Protests = o.Protests[:2] }})
	check(t, "an office", CheckOffice(anOffice()), api.OK)
	check(t, "nothing", CheckOffice(Office{}), api.OK)
}

func TestCheckOfficeAtItsLimits(t *testing.T) {
	sheets := func(n int) []Sheet { return repeated(n, func(i int) Sheet { return final(race(named(i))) }) }
	protests := func(n int) []Protest {
		return repeated(n, func(i int) Protest { return Protest{1 + i, "x0", "ann", "final", i%2 == 0} })
	}
	many := func(races int) Office {
		o := Office{Sheets: repeated(races, func(i int) Sheet {
			return final(race(named(i)), func(s *Sheet) {
				s.Results = repeated(100, func(i int) api.Result { return api.Result{Athlete: named(i), Mark: none("DQ")} })
			})
		})}
		for _, s := range o.Sheets {
			for _, r := range s.Results {
				o.Strikes = append(o.Strikes, Strike{s.Race, r.Athlete, run(1)})
			}
		}
		return o
	}
	for i, x := range []struct {
		o    Office
		want api.Errno
	}{
		{Office{Sheets: sheets(64)}, api.OK}, {Office{Sheets: sheets(65)}, api.ErrMany},
		{Office{Sheets: sheets(1), Protests: protests(1000)}, api.OK}, {Office{Sheets: sheets(1), Protests: protests(1001)}, api.ErrMany},
		{many(10), api.OK}, {Office{Sheets: many(11).Sheets, Strikes: many(11).Strikes[:1001]}, api.ErrMany},
		{Office{Sheets: make([]Sheet, 1), Protests: make([]Protest, 1001)}, api.ErrMany}, {Office{Sheets: make([]Sheet, 1), Strikes: make([]Strike, 1001)}, api.ErrMany},
	} {
		check(t, fmt.Sprint("the office ", i), CheckOffice(x.o), x.want)
	}
}

// TestStrikesOfOtherReasons has a strike of an athlete whose mark is none for another reason.
func TestStrikesOfOtherReasons(t *testing.T) {
	for _, reason := range []string{"DNS", "DNF", "NM"} {
		o := anOffice()
		o.Sheets[0].Results[1].Mark = none(reason)
		check(t, "a strike beside "+reason, CheckOffice(o), api.ErrState)
	}
	o := anOffice()
	o.Strikes[0].Mark = none("DQ")
	check(t, "a strike of a mark of the kind none", CheckOffice(o), api.OK)
}

// checkOffices checks that a function of an office and a race returns the errors of both, and nothing beside them.
func checkOffices(t *testing.T, what string, f func(o Office, race string) (any, api.Errno)) {
	t.Helper()
	bad := anOffice()
	bad.Protests[0].Upheld = true
	for i, x := range []struct {
		o    Office
		race string
		want api.Errno
	}{
		{Office{Sheets: make([]Sheet, 65)}, "final", api.ErrMany}, {bad, "relay", api.ErrForm}, {bad, "final", api.ErrForm},
		{anOffice(), "relay", api.ErrUnknown}, {anOffice(), "", api.ErrUnknown}, {Office{}, "final", api.ErrUnknown},
	} {
		got, e := f(x.o, x.race)
		checkBoth(t, fmt.Sprint(what, " of the office ", i), got, e, nil, x.want)
	}
}

func TestFind(t *testing.T) {
	checkOffices(t, "Find", func(o Office, race string) (any, api.Errno) { return Find(o, race) })
	for _, name := range []string{"final", "heat"} {
		s, e := Find(anOffice(), name)
		checkBoth(t, "Find", s, e, final(struckBea, race(name)), api.OK)
	}
	o := after(t, finalLine, "void final")
	s, e := Find(o, "final")
	checkBoth(t, "Find of a void sheet", s, e, final(version(2), func(s *Sheet) { s.State = "void" }), api.OK)
}

// raceOf returns an office with one race of these marks of athletes a, b, and so on.
func raceOf(marks ...api.Mark) Office {
	s := Sheet{Race: "r", Version: 1, State: "provisional"}
	for i, m := range marks {
		s.Results = append(s.Results, api.Result{Athlete: string(rune('a' + i)), Mark: m})
	}
	return Office{Sheets: []Sheet{s}}
}

func TestPlacesAndPoints(t *testing.T) {
	for i, x := range []struct {
		o      Office
		places []Place
		points []int // by the table 9, 7, 5
	}{
		{raceOf(run(3), run(1), run(2), run(4)), []Place{{"b", 1}, {"c", 2}, {"a", 3}, {"d", 4}}, []int{5, 9, 7, 0}},
		{raceOf(leap(3), leap(1), leap(2), leap(4)), []Place{{"d", 1}, {"a", 2}, {"c", 3}, {"b", 4}}, []int{7, 0, 5, 9}},
		{raceOf(pointed(0), pointed(1)), []Place{{"b", 1}, {"a", 2}}, []int{7, 9}},
		{raceOf(run(2), run(2), run(1), run(2), run(3)), []Place{{"c", 1}, {"a", 2}, {"b", 2}, {"d", 2}, {"e", 5}}, []int{7, 7, 9, 7, 0}},
		{raceOf(none("DNS"), run(2), none("DQ"), run(2), none("NM")), []Place{{"b", 1}, {"d", 1}}, []int{0, 9, 0, 9, 0}},
		{raceOf(none("DNS")), nil, []int{0}},
	} {
		places, e := Places(x.o, "r")
		checkBoth(t, fmt.Sprint("the places ", i), places, e, x.places, api.OK)
		points, e := Points(x.o, "r", []int{9, 7, 5})
		checkBoth(t, fmt.Sprint("the points ", i), points, e, x.points, api.OK)
		points, e = Points(x.o, "r", nil)
		checkBoth(t, fmt.Sprint("the points by no table ", i), points, e, make([]int, len(x.points)), api.OK)
	}
}

func TestErrorsOfPlaces(t *testing.T) {
	checkOffices(t, "Places", func(o Office, race string) (any, api.Errno) { return Places(o, race) })
	void := after(t, finalLine, "void final")
	places, e := Places(void, "final")
	checkBoth(t, "Places of a void sheet", places, e, nil, api.ErrState)
	places, e = Places(after(t, finalLine, "confirm final"), "final")
	checkBoth(t, "Places of an official sheet", places, e, []Place{{"bea", 1}, {"ann", 2}}, api.OK)
}

func TestErrorsOfPoints(t *testing.T) {
	for _, table := range [][]int{nil, {-1}, make([]int, 161)} {
		checkOffices(t, "Points", func(o Office, race string) (any, api.Errno) { return Points(o, race, table) })
	}
	o, void := after(t, finalLine), after(t, finalLine, "void final")
	for i, x := range []struct {
		o      Office
		table  []int
		points []int
		e      api.Errno
	}{
		{o, make([]int, 160), []int{0, 0, 0}, api.OK}, {o, make([]int, 161), nil, api.ErrMany}, {o, append(make([]int, 160), -1), nil, api.ErrMany},
		{o, []int{0, 99999}, []int{99999, 0, 0}, api.OK}, {o, []int{5, -1}, nil, api.ErrRange}, {o, []int{100000}, nil, api.ErrRange}, {o, []int{math.MinInt}, nil, api.ErrRange},
		{void, nil, nil, api.ErrState}, {void, []int{1}, nil, api.ErrState}, {void, []int{-1}, nil, api.ErrRange}, {void, make([]int, 161), nil, api.ErrMany},
	} {
		points, e := Points(x.o, "final", x.table)
		checkBoth(t, fmt.Sprint("the points by the table ", i), points, e, x.points, x.e)
	}
}
