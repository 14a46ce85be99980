package office

import (
	"fmt"
	"math"
	"math/rand"
	"strings"
	"testing"

	"stadion/api"
)

// anything fills in arguments of any form, few values of which are wrong ones.
type anything struct{ *rand.Rand }

func pick[T any](r anything, l ...T) T { return l[r.Intn(len(l))] }

func (r anything) number(l ...int) int {
	if r.Intn(100) == 0 {
		return pick(r, math.MinInt, -1, 0, 17, 1001, 1000000000, math.MaxInt)
	}
	return pick(r, l...)
}

func (r anything) text(l ...string) string {
	if r.Intn(100) == 0 {
		return pick(r, "", " ", "1a", "\xff", "a b", "a\n", strings.Repeat("a", 25))
	}
	return pick(r, l...)
}

// size is nearly always a small one.
func (r anything) size(n int) int {
	if r.Intn(200) == 0 {
		return pick(r, 65, 161, 1001)
	}
	return r.Intn(n)
}

func (r anything) mark() api.Mark {
	if r.Intn(3) == 0 {
		return api.Mark{Kind: r.text("none"), Value: r.number(0), Reason: r.text("DQ", "DNS")}
	}
	return api.Mark{Kind: r.text("time"), Value: r.number(1, 2)}
}

func (r anything) sheet(name string) Sheet {
	return Sheet{r.text(name), r.number(1, 2, 3), r.text("provisional", "official", "void"), repeated(1+r.size(3), func(i int) api.Result { return api.Result{Athlete: r.text(named(i)), Mark: r.mark()} })}
}

func (r anything) office() Office {
	o := Office{Sheets: repeated(r.size(4), func(i int) Sheet { return r.sheet(named(i)) })}
	for range r.size(2) {
		x := Strike{r.text("x0", "x1"), r.text("x0"), r.mark()}
		for i, s := range o.Sheets {
			if s.Race == x.Race && len(s.Results) > 0 && r.Intn(20) > 0 {
				o.Sheets[i].Results[0].Mark = none("DQ")
			}
		}
		o.Strikes = append(o.Strikes, x)
	}
	o.Protests = repeated(r.size(3), func(i int) Protest {
		return Protest{r.number(1+2*i, 2+2*i), r.text("x0"), r.text("x0"), r.text("open", "decided", "appealed", "final"), r.Intn(4) == 0}
	})
	return o
}

func (r anything) follower() Follower {
	return Follower{repeated(r.size(4), func(i int) Sheet { return r.sheet(named(i)) })}
}

func (r anything) event(number int) api.Event {
	e := event(r.number(number), someLine(r.Rand, []int{2}))
	if r.Intn(20) == 0 {
		e.Names = repeated(r.size(3), func(int) string { return r.text("r", "a") })
	}
	if r.Intn(20) == 0 {
		e.Values = repeated(r.size(3), func(int) int { return r.number(0, 1) })
	}
	if r.Intn(20) == 0 {
		e.Text = r.text("x", strings.Repeat("x", 4097))
	}
	return e
}

// events returns events, most of which are accepted.
func (r anything) events() []api.Event {
	l := events("publish r a=10.50 b=10.52 c=10.51", "protest r c")
	for range r.Intn(6) {
		if e := r.event(len(l) + 1); r.Intn(20) == 0 || Accepts(l, e) == api.OK {
			l = append(l, e)
		}
	}
	return l
}

// log returns the records of events, perhaps with some bytes changed or cut off.
func (r anything) log(l []api.Event) string {
	log := ""
	for _, e := range l {
		log += record(e)
	}
	text := []byte(log)
	for r.Intn(4) == 0 {
		text[r.Intn(len(text))] = byte(r.Intn(256))
	}
	if r.Intn(6) == 0 {
		text = text[:r.Intn(len(text))]
	}
	return string(text)
}

// functions returns calls of all functions; of more results than one those beside the error are in a list.
func functions(r anything) map[string]func() (any, api.Errno) {
	o, other, f, g, s := r.office(), r.office(), r.follower(), r.follower(), r.sheet("x1")
	l, name, table := r.events(), r.text("x0", "x1", "x2"), repeated(r.size(3), func(int) int { return r.number(0, 7) })
	e, log := r.event(len(l)+1), r.log(l)
	if r.Intn(3) == 0 {
		other, g = o, f
	}
	return map[string]func() (any, api.Errno){
		"CheckSheet":    func() (any, api.Errno) { return nil, CheckSheet(s) },
		"CheckOffice":   func() (any, api.Errno) { return nil, CheckOffice(o) },
		"Find":          func() (any, api.Errno) { return Find(o, name) },
		"Places":        func() (any, api.Errno) { return Places(o, name) },
		"Points":        func() (any, api.Errno) { return Points(o, name, table) },
		"Changed":       func() (any, api.Errno) { return Changed(o, other) },
		"CheckFollower": func() (any, api.Errno) { return nil, CheckFollower(f) },
		"Receive":       func() (any, api.Errno) { return Receive(f, s) },
		"Join":          func() (any, api.Errno) { return Join(f, g) },
		"Behind":        func() (any, api.Errno) { return Behind(o, f) },
		"CheckEvent":    func() (any, api.Errno) { return nil, CheckEvent(e) },
		"Replay":        func() (any, api.Errno) { o, _, e := Replay(l); return o, e },
		"Accepts":       func() (any, api.Errno) { return nil, Accepts(l, e) },
		"Feed":          func() (any, api.Errno) { return Feed(l) },
		"Append":        func() (any, api.Errno) { return Append(log, e) },
		"Load":          func() (any, api.Errno) { return Load(log) },
		"the arguments": func() (any, api.Errno) { return fmt.Sprint(o, other, f, g, s, l, e, table), api.OK },
	}
}

// TestAnyArguments checks that no function panics or changes its arguments, and that nothing stands beside an error.
func TestAnyArguments(t *testing.T) {
	r := anything{rand.New(rand.NewSource(58))}
	fine := map[string]int{}
	for range 3000 {
		all := functions(r)
		given, _ := all["the arguments"]()
		for what, f := range all {
			got, e := f()
			if e == api.OK {
				fine[what]++
			} else {
				checkNothing(t, what, got)
			}
		}
		now, _ := all["the arguments"]()
		check(t, "the arguments", now, given)
	}
	delete(fine, "the arguments")
	for what := range functions(r) {
		if n := fine[what]; what != "the arguments" && (n < 300 || n > 2950) {
			t.Errorf("%s is without an error %d times", what, n)
		}
	}
}

// TestAnyLines gives lines of any words to a session, and recovers any texts.
func TestAnyLines(t *testing.T) {
	r := anything{rand.New(rand.NewSource(59))}
	words := []string{"publish", "correct", "strike", "reinstate", "protest", "decide", "appeal", "rule", "confirm", "void", "undo", "sheet", "places", "protests", "races", "", "r", "a", "a=1p", "1", "2", "0", "x\n", "1p"}
	for range 300 {
		s := told(t, "publish r a=10.50 b=10.52 c=10.51", "protest r c")
		for range 50 {
			line := strings.Join(repeated(r.Intn(6), func(int) string { return pick(r, words...) }), " ")
			before := s.Log()
			answer, e := s.Do(line)
			if e != api.OK {
				checkBoth(t, line, answer, e, nil, e)
				check(t, "the log", s.Log(), before)
			} else if answer == "" {
				t.Errorf("%q has no answer", line)
			}
			l, length, e := Recover(line + "\n" + before)
			check(t, "no log", []any{l, length, e == api.OK}, []any{[]api.Event{}, 0, false})
		}
	}
}

// TestOwnResults checks that results share no memory with each other, or with the arguments.
func TestOwnResults(t *testing.T) {
	l, o, f := events(example(3, "undo", "decide 2 1")...), after(t, example(3)...), having("a", 1, "b", 2)
	s := final(race("c"))
	for range 2 {
		sheet, _ := Find(o, "final")
		places, _ := Places(o, "final")
		points, _ := Points(o, "final", []int{7})
		received, _ := Receive(f, s)
		joined, _ := Join(f, Follower{[]Sheet{s}})
		behind, _ := Behind(o, f)
		replayed, _, _ := Replay(l)
		feed, _ := Feed(l)
		recovered, _, _ := Recover(recordOf("1 publish final ann=10.50") + recordOf("2 appeal 7"))
		check(t, "the results", []any{sheet, places, points, received, joined, behind, replayed, feed, recovered}, []any{
			final(struckBea), []Place{{"ann", 1}}, []int{7, 0, 0}, having("a", 1, "b", 2, "c", 1), having("a", 1, "b", 2, "c", 1), []string{"final"}, after(t, example(3)...),
			[]Sheet{final(), final(struckBea), final(), final(struckBea)}, events("publish final ann=10.50", "appeal 7")})
		for _, results := range [][]api.Result{sheet.Results, received.Sheets[0].Results, received.Sheets[2].Results, joined.Sheets[1].Results, joined.Sheets[2].Results, replayed.Sheets[0].Results, feed[0].Results} {
			clear(results)
		}
		check(t, "the other sheets of the feed", feed[1:], []Sheet{final(struckBea), final(), final(struckBea)})
		clear(feed[1].Results)
		check(t, "the last sheets of the feed", feed[2:], []Sheet{final(), final(struckBea)})
		clear(replayed.Strikes)
		clear(replayed.Protests)
		clear(received.Sheets)
		clear(recovered[0].Names)
		clear(recovered[1].Values)
	}
	check(t, "the arguments", []any{l, o, f, s}, []any{events(example(3, "undo", "decide 2 1")...), after(t, example(3)...), having("a", 1, "b", 2), final(race("c"))})
}
