package office

import (
	"fmt"
	"math/rand"
	"slices"
	"strings"
	"testing"

	"stadion/api"
	"stadion/mark"
)

// then returns the office after some events and further lines, or false if one is not accepted.
func then(l []api.Event, lines ...string) (Office, bool) {
	for _, line := range lines {
		l = append(slices.Clip(l), event(len(l)+1, line))
	}
	o, _, e := Replay(l)
	return o, e == api.OK
}

// TestReinstatedAsBefore strikes an athlete who is not struck, by an event or by a protest that is upheld, and takes it back.
func TestReinstatedAsBefore(t *testing.T) {
	r := rand.New(rand.NewSource(51))
	plain, judged := 0, 0
	for range 1000 {
		l := randomEvents(t, r, r.Intn(20), countNothing)
		before, _, _ := Replay(l)
		athlete := string(rune('a' + r.Intn(3)))
		struck := slices.ContainsFunc(before.Strikes, func(x Strike) bool { return x.Race == "r" && x.Athlete == athlete })
		upheld := slices.ContainsFunc(before.Protests, func(p Protest) bool { return p.Race == "r" && p.Athlete == athlete && p.Upheld })
		if struck || upheld { // another protest that is upheld keeps an athlete struck
			continue
		}
		unchanged := func(lines ...string) int {
			o, ok := then(l, lines...)
			if !ok {
				return 0
			}
			changes, e := Changed(before, o)
			checkBoth(t, fmt.Sprintf("the changes by %q after %v", lines, l), changes, e, []Change{}, api.OK)
			return 1
		}
		n := len(l) + 1
		plain += unchanged("strike r "+athlete, "reinstate r "+athlete)
		judged += unchanged("protest r "+athlete, fmt.Sprint("decide ", n, " 1"), fmt.Sprint("appeal ", n), fmt.Sprint("rule ", n, " 0"))
	}
	if plain < 200 || judged < 100 {
		t.Errorf("%d are reinstated, %d after a protest", plain, judged)
	}
}

// TestCorrectionsChangeNoMore looks at the others after the mark of one is corrected.
func TestCorrectionsChangeNoMore(t *testing.T) {
	r := rand.New(rand.NewSource(52))
	found := 0
	for range 3000 {
		texts := []string{"10.50", "10.51", "10.52", "10.53", "DNF", "DQ"}
		text := func() string { return texts[r.Intn(len(texts))] }
		line := fmt.Sprintf("publish r a=%s b=%s c=%s d=%s e=%s", text(), text(), text(), text(), text())
		before := after(t, line)
		o, ok := then(events(line), "correct r c "+text())
		if !ok {
			continue
		}
		found++
		old, new := before.Sheets[0].Results, o.Sheets[0].Results
		for i, r := range old {
			if r.Athlete == "c" {
				continue
			}
			check(t, "the mark of another one", new[i], r)
			was, _ := mark.Compare(r.Mark, old[2].Mark)
			stays, _ := mark.Compare(r.Mark, new[2].Mark)
			if was*stays > 0 {
				check(t, fmt.Sprintf("the place of %s after %v and %v", r.Athlete, old, new), o.Sheets[0].ranks()[i], before.Sheets[0].ranks()[i])
			}
		}
	}
	if found < 1000 {
		t.Errorf("%d corrections", found)
	}
}

// TestConfirmedWithoutOpenProtests tries to confirm after random events.
func TestConfirmedWithoutOpenProtests(t *testing.T) {
	r := rand.New(rand.NewSource(53))
	confirmed, open := 0, 0
	for range 1000 {
		l := randomEvents(t, r, r.Intn(12), countNothing)
		o, _, _ := Replay(l)
		pending := slices.ContainsFunc(o.Protests, func(p Protest) bool { return p.Race == "r" && (p.Stage == "open" || p.Stage == "appealed") })
		_, ok := then(l, "confirm r")
		if ok && pending {
			t.Errorf("r is confirmed after %v", l)
		}
		if ok {
			confirmed++
		} else if pending {
			open++
		}
	}
	if confirmed < 100 || open < 100 {
		t.Errorf("%d are confirmed, %d are open", confirmed, open)
	}
}

// withoutUndo returns random events without an undo.
func withoutUndo(t *testing.T, r *rand.Rand) []api.Event {
	t.Helper()
	for {
		if l := randomEvents(t, r, 5+r.Intn(15), countNothing); !slices.ContainsFunc(l, func(e api.Event) bool { return e.Kind == "undo" }) {
			return l
		}
	}
}

// receiveAll returns a follower who has received sheets.
func receiveAll(t *testing.T, sheets []Sheet) Follower {
	t.Helper()
	var f Follower
	for _, s := range sheets {
		next, e := Receive(f, s)
		if e != api.OK {
			t.Fatalf("%v receives %v: %v", f, s, e)
		}
		f = next
	}
	return f
}

// shuffled returns some elements in a random order, some of them twice.
func shuffled[T any](r *rand.Rand, l []T) []T {
	var list []T
	for _, i := range r.Perm(len(l)) {
		list = append(list, slices.Repeat(l[i:i+1], 1+r.Intn(2))...)
	}
	return list
}

// TestFeedsInAnyOrder gives all sheets of a feed to a follower, some of them twice.
func TestFeedsInAnyOrder(t *testing.T) {
	r := rand.New(rand.NewSource(54))
	for range 150 {
		l := withoutUndo(t, r)
		o, _, _ := Replay(l)
		feed, _ := Feed(l)
		f := receiveAll(t, shuffled(r, feed))
		races, e := Behind(o, f)
		checkBoth(t, "behind", races, e, []string{}, api.OK)
		sheets := slices.Clone(o.Sheets)
		slices.SortFunc(sheets, func(a, b Sheet) int { return strings.Compare(a.Race, b.Race) })
		check(t, "the sheets", f.Sheets, sheets)
	}
}

// TestJoinInAnyOrder joins followers, some of whom have another sheet of a race and version.
func TestJoinInAnyOrder(t *testing.T) {
	r := rand.New(rand.NewSource(55))
	follower := func() Follower {
		var f Follower
		for _, name := range []string{"a", "b", "c", "d"} {
			if s := final(race(name), version(1+r.Intn(3))); r.Intn(3) > 0 {
				s.State = []string{"provisional", "provisional", "provisional", "provisional", "official"}[r.Intn(5)]
				f.Sheets = append(f.Sheets, s)
			}
		}
		return f
	}
	joined, conflicts := 0, 0
	for range 3000 {
		a, b, c := follower(), follower(), follower()
		ab, e := Join(a, b)
		ba, e1 := Join(b, a)
		check(t, "a with b, and b with a", []any{ab, e}, []any{ba, e1})
		aa, e2 := Join(a, a)
		checkBoth(t, "a with a", aa, e2, a, api.OK)
		bc, e1 := Join(b, c)
		if _, e2 := Join(a, c); first(e, e1, e2) != api.OK {
			conflicts++
			continue
		}
		joined++
		left, e := Join(ab, c)
		right, e1 := Join(a, bc)
		check(t, "the errors", []api.Errno{e, e1}, []api.Errno{api.OK, api.OK})
		check(t, "a with b, and with c", left, right)
	}
	if joined < 1000 || conflicts < 1000 {
		t.Errorf("%d are joined, %d have conflicts", joined, conflicts)
	}
}

// TestChangedBytes changes each byte of a log to some other ones.
func TestChangedBytes(t *testing.T) {
	r := rand.New(rand.NewSource(56))
	log := []byte(told(t, example(5, "correct final cat 10.5", "confirm final", "undo")...).Log())
	for i, old := range log {
		if old == '\n' {
			continue
		}
		for _, other := range []byte{old + 1, old - 1, old ^ 1, old ^ 128, byte(r.Intn(256)), byte(r.Intn(256)), 'a' + byte(r.Intn(26)), '0' + byte(r.Intn(10))} {
			if other == old || other == '\n' {
				continue
			}
			log[i] = other
			l, length, e := Recover(string(log))
			if e == api.OK || length > i || len(l) != strings.Count(string(log[:i]), "\n") {
				t.Errorf("the byte %d as %q: %v of %d bytes, and %v", i, other, l, length, e)
			}
		}
		log[i] = old
	}
}

// TestUndoAll takes random events back, one after another.
func TestUndoAll(t *testing.T) {
	r := rand.New(rand.NewSource(57))
	for range 150 {
		l := withoutUndo(t, r)
		s := told(t)
		for _, e := range l {
			_, text, _ := strings.Cut(body(e), " ")
			answer, err := s.Do(text)
			checkBoth(t, text, answer, err, fmt.Sprint("done ", e.Number), api.OK)
		}
		for i := range l {
			want, _, _ := Replay(l[:len(l)-i])
			check(t, "the office", s.office(), want)
			answer, err := s.Do("undo")
			checkBoth(t, "undo", answer, err, fmt.Sprint("done ", len(l)+i+1), api.OK)
		}
		o, _, e := Replay(s.Events())
		checkBoth(t, "the office", o, e, Office{}, api.OK)
		_, e = s.Do("undo")
		check(t, "one undo more", e, api.ErrEmpty)
	}
}
