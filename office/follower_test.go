package office

import (
	"fmt"
	"slices"
	"testing"

	"stadion/api"
)

// having returns a follower with sheets of these races and versions.
func having(versions ...any) Follower {
	var f Follower
	for l := range slices.Chunk(versions, 2) {
		f.Sheets = append(f.Sheets, final(race(l[0].(string)), version(l[1].(int))))
	}
	return f
}

// numbered returns a follower with as many sheets, of every second number from one on, which ascend.
func numbered(n, from int) Follower {
	return Follower{repeated(n, func(i int) Sheet { return final(race(fmt.Sprintf("x%03d", from+2*i))) })}
}

func TestCheckFollower(t *testing.T) {
	climb(t, "a follower", Follower{make([]Sheet, 3)}, CheckFollower,
		rung[Follower]{api.ErrName, func(f *Follower) { f.Sheets[0] = final() }},
		rung[Follower]{api.ErrName, func(f *Follower) { f.Sheets[1] = final(version(0)) }},
		rung[Follower]{api.ErrRange, func(f *Follower) { f.Sheets[1].Version = 2 }},
		rung[Follower]{api.ErrOrder, func(f *Follower) { f.Sheets[1].Race = "Zfinal" }},
		rung[Follower]{api.ErrOrder, func(f *Follower) { f.Sheets[1].Race = "final_" }},
		rung[Follower]{api.ErrName, func(f *Follower) { f.Sheets[2] = final(race("finalA")) }},
		rung[Follower]{api.ErrOrder, func(f *Follower) { f.Sheets[2].Race = "finala" }})
	check(t, "nothing", CheckFollower(Follower{}), api.OK)
	check(t, "64 sheets", CheckFollower(numbered(64, 0)), api.OK)
	check(t, "65 sheets", CheckFollower(numbered(65, 0)), api.ErrMany)
	check(t, "65 wrong sheets", CheckFollower(Follower{make([]Sheet, 65)}), api.ErrMany)
}

func TestReceive(t *testing.T) {
	for i, x := range []struct {
		f    Follower
		race string
		n    int
		want Follower
	}{
		{Follower{}, "b", 3, having("b", 3)},
		{having("b", 3), "b", 4, having("b", 4)},
		{having("b", 3), "b", 1000, having("b", 1000)},
		{having("b", 3), "b", 3, having("b", 3)},
		{having("b", 3), "b", 2, having("b", 3)},
		{having("b", 3), "a", 1, having("a", 1, "b", 3)},
		{having("b", 3), "c", 1, having("b", 3, "c", 1)},
		{having("a", 1, "c", 2), "b", 9, having("a", 1, "b", 9, "c", 2)},
		{having("a", 1, "b", 2, "c", 3), "b", 3, having("a", 1, "b", 3, "c", 3)},
		{having("a", 1, "b", 2, "c", 3), "B", 3, having("B", 3, "a", 1, "b", 2, "c", 3)},
	} {
		got, e := Receive(x.f, final(race(x.race), version(x.n)))
		checkBoth(t, fmt.Sprint("the follower ", i), got, e, x.want, api.OK)
	}
}

// otherSheets returns sheets of the race and the version of another one, which are not the same.
func otherSheets(s Sheet) []Sheet {
	return repeated(5, func(i int) Sheet {
		o := s.clone()
		switch i {
		case 0:
			o.State = "official"
		case 1:
			o.Results = o.Results[:2]
		case 2:
			o.Results[1].Mark.Value++
		case 3:
			o.Results[0], o.Results[1] = o.Results[1], o.Results[0]
		case 4:
			o.Results[2].Athlete = "dan"
		}
		return o
	})
}

func TestConflicts(t *testing.T) {
	for i, s := range otherSheets(final(version(3))) {
		got, e := Receive(having("a", 1, "final", 3), s)
		checkBoth(t, fmt.Sprint("Receive of the sheet ", i), got, e, nil, api.ErrConflict)
		got, e = Join(having("a", 1, "final", 3), Follower{[]Sheet{s, final(race("z"))}})
		checkBoth(t, fmt.Sprint("Join with the sheet ", i), got, e, nil, api.ErrConflict)
		got, e = Receive(having("a", 1, "final", 4), s)
		checkBoth(t, fmt.Sprint("Receive of the older sheet ", i), got, e, having("a", 1, "final", 4), api.OK)
		got, e = Receive(having("a", 1, "final", 2), s)
		checkBoth(t, fmt.Sprint("Receive of the newer sheet ", i), got, e, Follower{[]Sheet{final(race("a")), s}}, api.OK)
	}
}

func TestErrorsOfReceive(t *testing.T) {
	wrong := having("b", 1, "a", 1)
	for i, x := range []struct {
		f    Follower
		s    Sheet
		want api.Errno
	}{
		{wrong, final(version(0)), api.ErrOrder}, {wrong, final(), api.ErrOrder}, {Follower{}, final(version(0)), api.ErrRange}, {Follower{}, Sheet{}, api.ErrName},
		{numbered(64, 0), final(), api.ErrMany}, {numbered(64, 0), otherSheets(final(race("x000")))[0], api.ErrConflict},
	} {
		got, e := Receive(x.f, x.s)
		checkBoth(t, fmt.Sprint("the follower ", i), got, e, nil, x.want)
	}
	got, e := Receive(numbered(63, 0), final(race("y")))
	checkBoth(t, "a further sheet", got, e, Follower{append(numbered(63, 0).Sheets, final(race("y")))}, api.OK)
	got, e = Receive(numbered(64, 0), final(race("x004"), version(2)))
	check(t, "a newer sheet", []any{len(got.Sheets), got.Sheets[2].Version, e}, []any{64, 2, api.OK})
}

func TestJoin(t *testing.T) {
	for i, x := range []struct{ a, b, want Follower }{
		{Follower{}, Follower{}, Follower{}},
		{having("a", 1), Follower{}, having("a", 1)},
		{having("a", 1, "c", 3), having("b", 2, "d", 4), having("a", 1, "b", 2, "c", 3, "d", 4)},
		{having("a", 1, "b", 2), having("c", 3, "d", 4), having("a", 1, "b", 2, "c", 3, "d", 4)},
		{having("a", 1, "b", 5, "c", 2), having("a", 2, "b", 5, "c", 1), having("a", 2, "b", 5, "c", 2)},
		{having("a", 1, "c", 1), having("B", 1, "c", 2), having("B", 1, "a", 1, "c", 2)},
	} {
		got, e := Join(x.a, x.b)
		checkBoth(t, fmt.Sprint("the follower ", i), got, e, x.want, api.OK)
		got, e = Join(x.b, x.a)
		checkBoth(t, fmt.Sprint("the follower ", i, " the other way"), got, e, x.want, api.OK)
	}
}

func TestErrorsOfJoin(t *testing.T) {
	order, name := having("b", 1, "a", 1), having("", 1)
	other := Follower{otherSheets(final(race("x000")))[:1]}
	for i, x := range []struct {
		a, b Follower
		want api.Errno
	}{
		{order, name, api.ErrOrder}, {name, order, api.ErrName}, {Follower{}, order, api.ErrOrder}, {order, Follower{}, api.ErrOrder},
		{numbered(64, 0), numbered(1, 1), api.ErrMany}, {numbered(33, 0), numbered(32, 1), api.ErrMany}, {numbered(32, 0), numbered(32, 1), api.OK}, {numbered(64, 0), numbered(64, 0), api.OK},
		{numbered(64, 0), Follower{append(other.Sheets, numbered(1, 1).Sheets...)}, api.ErrConflict}, {other, numbered(64, 0), api.ErrConflict},
	} {
		got, e := Join(x.a, x.b)
		check(t, fmt.Sprint("the error ", i), e, x.want)
		if x.want == api.OK {
			check(t, fmt.Sprint("the sheets ", i), []any{len(got.Sheets), CheckFollower(got)}, []any{64, api.OK})
		} else {
			checkNothing(t, "Join", got)
		}
	}
}

func TestBehind(t *testing.T) {
	o := after(t, "publish b ann=1p", "publish c ann=1p", "publish a ann=1p", "correct c ann 2p", "correct c ann 3p")
	for i, x := range []struct {
		f    Follower
		want []string
	}{
		{Follower{}, []string{"b", "c", "a"}}, {having("a", 1, "b", 1, "c", 3), nil}, {having("a", 9, "b", 9, "c", 9), nil},
		{having("a", 1, "b", 1, "c", 2), []string{"c"}}, {having("b", 1, "c", 1, "d", 1), []string{"c", "a"}}, {having("A", 1, "B", 1, "C", 3), []string{"b", "c", "a"}},
	} {
		got, e := Behind(o, x.f)
		checkBoth(t, fmt.Sprint("behind ", i), got, e, x.want, api.OK)
	}
	bad := anOffice()
	bad.Protests[0].Upheld = true
	wrong := having("b", 1, "a", 1)
	for i, x := range []struct {
		o    Office
		f    Follower
		want api.Errno
	}{{bad, wrong, api.ErrForm}, {bad, Follower{}, api.ErrForm}, {o, wrong, api.ErrOrder}, {Office{}, Follower{make([]Sheet, 65)}, api.ErrMany}} {
		got, e := Behind(x.o, x.f)
		checkBoth(t, fmt.Sprint("behind with the error ", i), got, e, nil, x.want)
	}
}
