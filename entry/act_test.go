package entry

import (
	"math"
	"testing"

	"stadion/api"
)

// validActs returns an act of each kind.
func validActs() []Act {
	return []Act{
		clubAct(5, "A"), athleteAct(5, "ann", "A", 1), licenceAct(5, "ann", 1, 2), transferAct(5, "ann", "A"),
		enterAct(5, "ann", "sprint", timeOf(1)), withdrawAct(5, "ann", "sprint"), checkAct(5, "ann", "sprint"), teamAct(5, "A", "relay", "ann", "amy"),
	}
}

// field is a field of an act: how it is filled in, and with which value it has which error.
type field struct {
	name   string
	isFull func(a Act) bool
	fill   func(a *Act)
	clear  func(a *Act)
	wrong  map[api.Errno][]func(a *Act)
}

func textField(name string, text func(a *Act) *string) field {
	set := func(s string) func(a *Act) { return func(a *Act) { *text(a) = s } }
	return field{name, func(a Act) bool { return *text(&a) != "" }, set("x"), set(""), map[api.Errno][]func(a *Act){
		api.ErrName: {set(""), set("1a"), set("a-b"), set("_"), set("abcdefghijklmnopqrstuvwxy")},
		api.OK:      {set("Z_9"), set("abcdefghijklmnopqrstuvwx")},
	}}
}

func actFields() []field {
	names := func(l ...string) func(a *Act) { return func(a *Act) { a.Names = l } }
	of := func(m api.Mark) func(a *Act) { return func(a *Act) { a.Mark = m } }
	return []field{
		textField("Athlete", func(a *Act) *string { return &a.Athlete }),
		textField("Club", func(a *Act) *string { return &a.Club }),
		textField("Category", func(a *Act) *string { return &a.Category }),
		textField("Contest", func(a *Act) *string { return &a.Contest }),
		{"From", func(a Act) bool { return a.From != 0 }, func(a *Act) { a.From = 1 }, func(a *Act) { a.From = 0 }, map[api.Errno][]func(a *Act){
			api.ErrRange: {func(a *Act) { a.From = -1 }, func(a *Act) { a.From = 100000 }, func(a *Act) { a.From = math.MinInt }},
			api.OK:       {func(a *Act) { a.From = 0 }, func(a *Act) { a.From = 2 }},
		}},
		{"To", func(a Act) bool { return a.To != 0 }, func(a *Act) { a.To = 1 }, func(a *Act) { a.To = 0 }, map[api.Errno][]func(a *Act){
			api.ErrRange: {func(a *Act) { a.To = -1 }, func(a *Act) { a.To = 100000 }, func(a *Act) { a.To = math.MaxInt }},
			api.ErrOrder: {func(a *Act) { a.To = 0 }},
			api.OK:       {func(a *Act) { a.To = 1 }, func(a *Act) { a.To = 99999 }},
		}},
		{"Mark", func(a Act) bool { return a.Mark != api.Mark{} }, of(api.Mark{Reason: "?"}), of(api.Mark{}), map[api.Errno][]func(a *Act){
			api.ErrKind:  {of(api.Mark{}), of(api.Mark{Kind: "speed", Value: 1})},
			api.ErrForm:  {of(noMark("")), of(api.Mark{Kind: "time", Value: 1, Reason: "DQ"})},
			api.ErrRange: {of(timeOf(0)), of(lengthOf(1000000)), of(api.Mark{Kind: "none", Value: 1, Reason: "NM"})},
			api.OK:       {of(noMark("DNS")), of(pointsOf(0)), of(lengthOf(0))},
		}},
		{"Names", func(a Act) bool { return len(a.Names) > 0 }, names("x"), names(), map[api.Errno][]func(a *Act){
			api.ErrMany: {names(make([]string, 9)...), names(numbered(9)...)},
			api.ErrName: {names("ann", ""), names(append(numbered(7), "1")...)},
			api.OK:      {names(), names(numbered(8)...), names("ann", "ann")},
		}},
	}
}

func TestCheckAct(t *testing.T) {
	for _, a := range validActs() {
		check(t, a.Kind, CheckAct(a), api.OK)
		for _, f := range actFields() {
			if !f.isFull(a) {
				checkOtherField(t, a, f)
				continue
			}
			for want, changes := range f.wrong {
				for i, change := range changes {
					b := a
					change(&b)
					check(t, a.Kind+" with the field "+f.name+", "+string(rune('0'+i)), CheckAct(b), want)
				}
			}
		}
	}
}

// checkOtherField checks that a field that an act does not need has to be empty.
func checkOtherField(t *testing.T, a Act, f field) {
	t.Helper()
	f.fill(&a)
	check(t, a.Kind+" with the other field "+f.name, CheckAct(a), api.ErrForm)
	f.clear(&a)
	check(t, a.Kind+" without the other field "+f.name, CheckAct(a), api.OK)
}

func TestCheckActAlone(t *testing.T) {
	for _, kind := range []string{"", "Club", "leave", "teams"} {
		check(t, "the kind "+kind, CheckAct(Act{Kind: kind, Day: -1}), api.ErrKind)
	}
	for _, a := range validActs() {
		for day, want := range map[int]api.Errno{-1: api.ErrRange, 0: api.OK, 99999: api.OK, 100000: api.ErrRange, math.MinInt: api.ErrRange} {
			a.Day = day
			check(t, a.Kind+" on a day", CheckAct(a), want)
		}
	}
	a := clubAct(5, "A")
	a.Mark = api.Mark{Value: 1}
	check(t, "a mark that has a value alone", CheckAct(a), api.ErrForm)
	a = clubAct(5, "A")
	a.Names = []string{""}
	check(t, "names that are empty", CheckAct(a), api.ErrForm)
	a.Names = []string{}
	check(t, "an empty list of names", CheckAct(a), api.OK)
	check(t, "a licence of one day", CheckAct(licenceAct(5, "ann", 7, 7)), api.OK)
	check(t, "a day of birth after the day", CheckAct(athleteAct(5, "ann", "A", 99999)), api.OK)
}

func TestErrorsOfActInOrder(t *testing.T) {
	climb(t, "athlete", Act{Day: -1, From: -1, To: -1, Contest: "-", Names: make([]string, 9)}, CheckAct,
		rung[Act]{api.ErrKind, func(a *Act) { a.Kind = "athlete" }},
		rung[Act]{api.ErrRange, func(a *Act) { a.Day = 1 }},
		rung[Act]{api.ErrName, func(a *Act) { a.Athlete = "ann" }},
		rung[Act]{api.ErrName, func(a *Act) { a.Club = "A" }},
		rung[Act]{api.ErrName, func(a *Act) { a.Category = "women" }},
		rung[Act]{api.ErrRange, func(a *Act) { a.From = 1 }},
		rung[Act]{api.ErrForm, func(a *Act) { a.Contest = "" }},
		rung[Act]{api.ErrForm, func(a *Act) { a.To = 0 }},
		rung[Act]{api.ErrForm, func(a *Act) { a.Names = nil }},
	)
	climb(t, "licence", Act{Day: -1, Kind: "licence", Athlete: "-", From: 100000, To: -1, Club: "-"}, CheckAct,
		rung[Act]{api.ErrRange, func(a *Act) { a.Day = 1 }},
		rung[Act]{api.ErrName, func(a *Act) { a.Athlete = "ann" }},
		rung[Act]{api.ErrRange, func(a *Act) { a.From = 99999 }},
		rung[Act]{api.ErrRange, func(a *Act) { a.To = 99998 }},
		rung[Act]{api.ErrOrder, func(a *Act) { a.To = 99999 }},
		rung[Act]{api.ErrForm, func(a *Act) { a.Club = "" }},
	)
	climb(t, "enter", Act{Kind: "enter", Mark: timeOf(0), Club: "A"}, CheckAct,
		rung[Act]{api.ErrName, func(a *Act) { a.Athlete = "ann" }},
		rung[Act]{api.ErrName, func(a *Act) { a.Contest = "sprint" }},
		rung[Act]{api.ErrRange, func(a *Act) { a.Mark = timeOf(1) }},
		rung[Act]{api.ErrForm, func(a *Act) { a.Club = "" }},
	)
	climb(t, "team", Act{Kind: "team", Athlete: "ann", Mark: noMark("NM"), Names: make([]string, 9)}, CheckAct,
		rung[Act]{api.ErrName, func(a *Act) { a.Club = "A" }},
		rung[Act]{api.ErrName, func(a *Act) { a.Contest = "relay" }},
		rung[Act]{api.ErrMany, func(a *Act) { a.Names = make([]string, 8) }},
		rung[Act]{api.ErrName, func(a *Act) { a.Names = numbered(8) }},
		rung[Act]{api.ErrForm, func(a *Act) { a.Athlete = "" }},
		rung[Act]{api.ErrForm, func(a *Act) { a.Mark = api.Mark{} }},
	)
}
