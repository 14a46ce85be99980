package office

import (
	"fmt"
	"testing"

	"stadion/api"
)

// TestUndo replays lines with undo, and those lines that count in the end.
func TestUndo(t *testing.T) {
	for i, x := range []struct{ all, count []string }{
		{[]string{finalLine, "undo"}, nil},
		{example(5, "undo"), example(4)},
		{example(5, "undo", "undo"), example(3)},
		{example(5, "undo", "undo", "undo", "undo", "undo"), nil},
		{example(3, "undo", "decide 2 0"), example(2, "decide 2 0")},
		{example(3, "undo", "decide 2 0", "undo", "decide 2 1"), example(3)},
		{example(3, "undo", "undo", "strike final bea", "undo"), example(1)},
		{[]string{finalLine, "publish heat ann=1p", "undo", "undo", finalLine}, example(1)},
		{[]string{"publish heat ann=1p", "undo", finalLine, "void final", "undo", "confirm final"}, example(1, "confirm final")},
	} {
		check(t, fmt.Sprint("the office ", i), after(t, x.all...), after(t, x.count...))
	}
	checkSteps(t,
		refused("undo", api.ErrEmpty), refused("undo", api.ErrEmpty, finalLine, "undo"), refused("undo", api.ErrEmpty, example(2, "undo", "undo")...),
		step{[]string{finalLine, "undo", finalLine}, "undo", api.OK, func(o *Office) { *o = Office{} }})
}

// TestNumbersOfProtests has a protest with the number of its event, not of those that count.
func TestNumbersOfProtests(t *testing.T) {
	l := []string{finalLine, "undo", finalLine, "void final", "undo", "protest final bea"}
	check(t, "the protests", after(t, l...).Protests, []Protest{{6, "final", "bea", "open", false}})
	checkSteps(t, refused("decide 2 1", api.ErrUnknown, l...), refused("decide 3 1", api.ErrUnknown, l...), step{l, "decide 6 0", api.OK, func(o *Office) { o.Protests[0].Stage = "decided" }})
}

// TestNumbersOfEvents has other numbers than the next one, for events that are refused otherwise, too.
func TestNumbersOfEvents(t *testing.T) {
	for _, line := range []string{
		"publish final ann=x", "publish heat ann=1p", "correct heat ann x", "strike final dan", "strike final cat", "reinstate final ann", "protest final bea", "decide 9 9", "decide 2 1",
		"appeal 9", "rule 9 9", "confirm heat", "void heat", "undo",
	} {
		for n, before := range map[int][]string{2: example(3), 3: example(3), 5: example(3), 1000: example(3), 7: nil} {
			check(t, fmt.Sprintf("%q with the number %d", line, n), Accepts(events(before...), event(n, line)), api.ErrOrder)
		}
	}
	check(t, "undo with a wrong number", Accepts(nil, event(2, "undo")), api.ErrOrder)
}

func TestErrorsOfReplay(t *testing.T) {
	twice := append(events(example(2)...), events("undo")...)
	long := repeated(1001, func(i int) api.Event { return api.Event{} })
	for i, x := range []struct {
		l     []api.Event
		place int
		want  api.Errno
	}{
		{nil, 0, api.OK}, {events(example(5)...), 0, api.OK},
		{events("undo"), 1, api.ErrEmpty}, {events(example(2, "confirm final", "nothing")...), 3, api.ErrOpen}, {events(example(5, "appeal 2")...), 6, api.ErrOver},
		{twice, 3, api.ErrOrder}, {events(example(5)...)[1:], 1, api.ErrOrder}, {make([]api.Event, 1), 1, api.ErrRange}, {events(finalLine, "void", "nothing"), 2, api.ErrShape}, {events(finalLine, "nothing"), 2, api.ErrKind},
		{long, 0, api.ErrMany}, {long[:1000], 1, api.ErrRange},
	} {
		o, place, e := Replay(x.l)
		check(t, fmt.Sprint("the place and the error ", i), []any{place, e}, []any{x.place, x.want})
		if x.want != api.OK {
			checkNothing(t, "Replay", o)
		}
		feed, e := Feed(x.l)
		check(t, fmt.Sprint("the error of the feed ", i), e, x.want)
		if x.want != api.OK {
			checkNothing(t, "Feed", feed)
			check(t, fmt.Sprint("the error of Accepts ", i), Accepts(x.l, api.Event{}), x.want)
		}
	}
}

// toAndFro returns as many lines, the even ones of which undo the ones before.
func toAndFro(n int) []string {
	return repeated(n, func(i int) string { return []string{finalLine, "undo"}[i%2] })
}

func TestMostEvents(t *testing.T) {
	check(t, "1000 events", after(t, toAndFro(1000)...), Office{})
	_, place, e := Replay(events(toAndFro(1001)...))
	check(t, "1001 events", []any{place, e}, []any{0, api.ErrMany})
	full := events(toAndFro(1000)...)
	for i, x := range []struct {
		l    []api.Event
		e    api.Event
		want api.Errno
	}{
		{full[:999], event(1000, "undo"), api.OK}, {full[:999], event(999, "undo"), api.ErrOrder}, {full[:999], event(1001, "undo"), api.ErrRange},
		{full, event(1000, "undo"), api.ErrMany}, {full, event(1, finalLine), api.ErrMany}, {full, event(1001, "undo"), api.ErrRange}, {full, event(7, "nothing"), api.ErrKind}, {full, event(7, "void 1"), api.ErrName},
		{full[1:], event(1000, "nothing"), api.ErrOrder}, {append(full, event(1001, "undo")), api.Event{}, api.ErrMany},
	} {
		check(t, fmt.Sprint("the event ", i), Accepts(x.l, x.e), x.want)
	}
}

// TestMostVersions corrects a mark as often as there are events left.
func TestMostVersions(t *testing.T) {
	l := append(example(1), repeated(999, func(i int) string { return []string{"correct final ann 1:00.00", "correct final ann 59.99"}[i%2] })...)
	o := after(t, l...)
	check(t, "the version", []any{o.Sheets[0].Version, CheckOffice(o)}, []any{1000, api.OK})
	feed, e := Feed(events(l...))
	check(t, "the feed", []any{len(feed), e, feed[0].Version, feed[999].Version}, []any{1000, api.OK, 1, 1000})
}

func TestFeed(t *testing.T) {
	heat := Sheet{"heat", 1, "provisional", []api.Result{{Athlete: "bea", Mark: pointed(1)}}}
	in := func(state string) func(s *Sheet) { return func(s *Sheet) { s.State = state } }
	for i, x := range []struct {
		lines []string
		want  []Sheet
	}{
		{nil, nil},
		{example(2), []Sheet{final()}},
		{example(2, "decide 2 0", "appeal 2", "rule 2 0", "confirm final"), []Sheet{final(), final(version(2), in("official"))}},
		{example(1, "publish heat bea=1p", "void final", "undo"), []Sheet{final(), heat, final(version(2), in("void")), final()}},
		{example(1, "publish heat bea=1p", "undo", "publish heat bea=1p"), []Sheet{final(), heat, heat}},
		{example(2, "undo", "undo"), []Sheet{final()}},
		{example(5, "undo", "undo", "undo"), []Sheet{final(), final(struckBea), final(version(3)), final(struckBea), final()}},
		{example(2, "strike final bea", "decide 2 1", "undo", "undo"), []Sheet{final(), final(struckBea), final()}},
		{[]string{"publish heat bea=1p", finalLine, "strike final bea", "undo", "undo", "undo"}, []Sheet{heat, final(), final(struckBea), final()}},
	} {
		feed, e := Feed(events(x.lines...))
		checkBoth(t, fmt.Sprint("the feed ", i), feed, e, x.want, api.OK)
	}
}

func TestEqualSheets(t *testing.T) {
	check(t, "the same sheet", final().equals(final()), true)
	for i, s := range append(otherSheets(final()), final(version(2)), final(race("heat"))) {
		check(t, fmt.Sprint("the sheet ", i), final().equals(s), false)
	}
}
