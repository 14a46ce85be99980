package office

import (
	"fmt"
	"math/rand"
	"slices"
	"strings"
	"testing"

	"stadion/api"
	"stadion/mark"
)

// who is a race and an athlete.
type who [2]string

// desk is a second office, which keeps what it knows in other ways.
type desk struct {
	races    []string
	athletes map[string][]string
	marks    map[who]api.Mark
	versions map[string]int
	states   map[string]string
	struck   []who
	had      map[who]api.Mark
	protests []int
	against  map[int]who
	stages   map[int]string
	upheld   map[int]bool
}

func newDesk() *desk {
	return &desk{athletes: map[string][]string{}, marks: map[who]api.Mark{}, versions: map[string]int{}, states: map[string]string{},
		had: map[who]api.Mark{}, against: map[int]who{}, stages: map[int]string{}, upheld: map[int]bool{}}
}

// office returns the desk as an office.
func (d *desk) office() Office {
	var o Office
	for _, r := range d.races {
		s := Sheet{Race: r, Version: d.versions[r], State: d.states[r]}
		for _, a := range d.athletes[r] {
			s.Results = append(s.Results, api.Result{Athlete: a, Mark: d.marks[who{r, a}]})
		}
		o.Sheets = append(o.Sheets, s)
	}
	for _, w := range d.struck {
		o.Strikes = append(o.Strikes, Strike{w[0], w[1], d.had[w]})
	}
	for _, n := range d.protests {
		o.Protests = append(o.Protests, Protest{n, d.against[n][0], d.against[n][1], d.stages[n], d.upheld[n]})
	}
	return o
}

func (d *desk) strike(w who) {
	d.struck, d.had[w] = append(d.struck, w), d.marks[w]
	d.marks[w] = api.Mark{Kind: "none", Reason: "DQ"}
	d.versions[w[0]]++
}

// isMixed reports whether the marks of a race are of more than one kind.
func (d *desk) isMixed(race string) bool {
	found := map[string]bool{}
	for _, a := range d.athletes[race] {
		found[d.marks[who{race, a}].Kind] = true
	}
	delete(found, "none")
	return len(found) > 1
}

func (d *desk) reinstate(w who) api.Errno {
	d.struck = slices.DeleteFunc(d.struck, func(x who) bool { return x == w })
	d.marks[w] = d.had[w]
	d.versions[w[0]]++
	if d.isMixed(w[0]) {
		return api.ErrKind
	}
	return api.OK
}

// do does an event, or returns its error; the desk is of no use after an error.
func (d *desk) do(e api.Event) api.Errno {
	switch e.Kind {
	case "publish":
		return d.publish(e.Names[0], e.Text)
	case "confirm", "void":
		return d.finish(e.Names[0], e.Kind)
	case "decide", "appeal", "rule":
		return d.judge(e)
	}
	w := who(e.Names)
	isStruck := slices.Contains(d.struck, w)
	isPending := slices.ContainsFunc(d.protests, func(n int) bool {
		return d.against[n] == w && slices.Contains([]string{"open", "appealed"}, d.stages[n])
	})
	state := d.states[w[0]]
	switch {
	case !slices.Contains(d.athletes[w[0]], w[1]):
		return api.ErrUnknown
	case state == "void", e.Kind == "protest" && state == "official", e.Kind == "correct" && isStruck:
		return api.ErrState
	case e.Kind == "protest" && isPending, e.Kind == "strike" && isStruck:
		return api.ErrTwice
	case e.Kind == "reinstate" && !isStruck:
		return api.ErrNone
	}
	switch e.Kind {
	case "strike":
		d.strike(w)
	case "reinstate":
		return d.reinstate(w)
	case "protest":
		d.protests = append(d.protests, e.Number)
		d.against[e.Number], d.stages[e.Number] = w, "open"
	case "correct":
		m, err := mark.Parse(e.Text)
		switch {
		case err != api.OK:
			return err
		case d.marks[w] == m:
			return api.ErrTwice
		}
		d.marks[w] = m
		d.versions[w[0]]++
		if d.isMixed(w[0]) {
			return api.ErrKind
		}
	}
	return api.OK
}

// publish has a text of names, each one with the text of a mark.
func (d *desk) publish(race, text string) api.Errno {
	if slices.Contains(d.races, race) {
		return api.ErrTwice
	}
	for word := range strings.FieldsSeq(text) {
		athlete, text, _ := strings.Cut(word, "=")
		m, e := mark.Parse(text)
		if e != api.OK {
			return e
		}
		d.athletes[race] = append(d.athletes[race], athlete)
		d.marks[who{race, athlete}] = m
	}
	d.races, d.versions[race], d.states[race] = append(d.races, race), 1, "provisional"
	if d.isMixed(race) {
		return api.ErrKind
	}
	return api.OK
}

func (d *desk) finish(race, kind string) api.Errno {
	state, known := d.states[race]
	switch {
	case !known:
		return api.ErrUnknown
	case kind == "void" && state == "void", kind == "confirm" && state == "official":
		return api.ErrTwice
	case kind == "confirm" && state == "void":
		return api.ErrState
	}
	for _, n := range d.protests {
		if kind == "confirm" && d.against[n][0] == race && d.stages[n] != "decided" && d.stages[n] != "final" {
			return api.ErrOpen
		}
	}
	d.states[race] = map[string]string{"confirm": "official", "void": "void"}[kind]
	d.versions[race]++
	return api.OK
}

func (d *desk) judge(e api.Event) api.Errno {
	n := e.Values[0]
	w, known := d.against[n]
	verdict := slices.Max(append(e.Values[1:], 0))
	stage, state := d.stages[n], d.states[w[0]]
	switch {
	case !known:
		return api.ErrUnknown
	case verdict > 1:
		return api.ErrRange
	case state == "void", e.Kind == "rule" && stage != "appealed":
		return api.ErrState
	case e.Kind == "decide" && stage != "open", e.Kind == "appeal" && (stage == "appealed" || stage == "final"):
		return api.ErrOver
	case e.Kind == "appeal" && stage == "open":
		return api.ErrOpen
	case e.Kind == "appeal" && state == "official":
		return api.ErrState
	}
	d.stages[n] = map[string]string{"decide": "decided", "appeal": "appealed", "rule": "final"}[e.Kind]
	if e.Kind == "appeal" {
		return api.OK
	}
	was := d.upheld[n]
	d.upheld[n] = verdict == 1
	others := false
	for _, m := range d.protests {
		others = others || m != n && d.against[m] == w && d.upheld[m]
	}
	isStruck := slices.Contains(d.struck, w)
	switch {
	case verdict == 1 && !isStruck:
		d.strike(w)
	case verdict == 0 && e.Kind == "rule" && isStruck && was && !others:
		return d.reinstate(w)
	}
	return api.OK
}

// deskAfter returns the desk after some events, of which it does those that count, and how many these are.
func deskAfter(l []api.Event) (*desk, int) {
	var count []api.Event
	for _, e := range l {
		if e.Kind != "undo" {
			count = append(count, e)
		} else {
			count = count[:len(count)-1]
		}
	}
	d := newDesk()
	for _, e := range count {
		d.do(e)
	}
	return d, len(count)
}

// someLine returns a line of any kind, about the races r and s, the athletes a, b and c, and mostly some protests.
func someLine(r *rand.Rand, protests []int) string {
	one := func(l ...string) string { return l[r.Intn(len(l))] }
	race, athlete := one("r", "r", "r", "s"), one("a", "b", "c", "c", "d")
	text := func() string { return one("10.50", "10.50", "10.51", "10.52", "10.5", "DNF", "DQ", "1.00m", "x") }
	protest, verdict := 1+r.Intn(50), one("0", "0", "1", "1", "1", "2")
	if len(protests) > 0 && r.Intn(6) > 0 {
		protest = protests[r.Intn(len(protests))]
	}
	switch kind := one("publish", "correct", "correct", "strike", "reinstate", "protest", "protest", "protest", "decide", "decide", "decide", "appeal", "appeal", "rule", "rule", "rule", "confirm", "void", "undo", "undo"); kind {
	case "publish":
		return kind + " " + race + " a=" + text() + " b=DNS c=" + text()
	case "correct":
		return kind + " " + race + " " + athlete + " " + text()
	case "decide", "rule":
		return fmt.Sprint(kind, " ", protest, " ", verdict)
	case "appeal":
		return fmt.Sprint(kind, " ", protest)
	case "confirm", "void":
		return kind + " " + one("t", "r", "s", "s")
	case "undo":
		return kind
	default:
		return kind + " " + race + " " + athlete
	}
}

// randomEvents returns events that are accepted, the first ones of which publish r, and counts the errors of those that are not by their kinds.
func randomEvents(t *testing.T, r *rand.Rand, n int, count func(kind string, e api.Errno)) []api.Event {
	t.Helper()
	l := events("publish r a=10.50 b=10.52 c=10.51", "protest r c")
	for range n {
		d, counting := deskAfter(l)
		e := event(len(l)+1, someLine(r, d.protests))
		want := api.OK
		switch {
		case e.Kind != "undo":
			want = d.do(e)
		case counting == 0:
			want = api.ErrEmpty
		}
		if got := Accepts(l, e); got != want {
			t.Fatalf("%v after %v: got %v, want %v", e, l, got, want)
		}
		count(e.Kind, want)
		if want == api.OK {
			l = append(l, e)
		}
	}
	return l
}

func countNothing(string, api.Errno) {}

// feedOf returns the feed of events, taken from the offices of the desk.
func feedOf(l []api.Event) []Sheet {
	var feed []Sheet
	before := map[string]string{}
	for i := range l {
		d, _ := deskAfter(l[:i+1])
		after := map[string]string{}
		for _, s := range d.office().Sheets {
			after[s.Race] = fmt.Sprintf("%+v", s)
			if before[s.Race] != after[s.Race] {
				feed = append(feed, s)
			}
		}
		before = after
	}
	return feed
}

// TestAgainstTheDesk compares random events with what the desk says of them.
func TestAgainstTheDesk(t *testing.T) {
	r := rand.New(rand.NewSource(50))
	seen := map[string]int{}
	for range 600 {
		l := randomEvents(t, r, 50, func(kind string, e api.Errno) { seen[fmt.Sprint(kind, " ", int(e))]++ })
		d, _ := deskAfter(l)
		o, place, e := Replay(l)
		check(t, "the office", []any{o, place, e}, []any{d.office(), 0, api.OK})
		check(t, "its error", CheckOffice(o), api.OK)
		feed, e := Feed(l)
		checkBoth(t, "the feed", feed, e, feedOf(l), api.OK)
		if t.Failed() {
			t.Fatalf("after %v", l)
		}
	}
	for _, x := range []string{
		"publish 0", "publish 9", "publish 25", "publish 13", "correct 0", "correct 10", "correct 19", "correct 25", "correct 9", "correct 13", "strike 0", "strike 10", "strike 19", "strike 9",
		"reinstate 0", "reinstate 10", "reinstate 19", "reinstate 7", "protest 0", "protest 10", "protest 19", "protest 9", "decide 0", "decide 10", "decide 3", "decide 19", "decide 20",
		"appeal 0", "appeal 10", "appeal 19", "appeal 24", "appeal 20", "rule 0", "rule 10", "rule 3", "rule 19", "confirm 0", "confirm 10", "confirm 19", "confirm 9", "confirm 24", "void 0", "void 10", "void 9", "undo 0", "undo 12",
	} {
		if seen[x] < 20 {
			t.Errorf("the kind and error %s are seen %d times", x, seen[x])
		}
	}
}
