package seed

import (
	"testing"

	"stadion/api"
)

func TestAdvance(t *testing.T) {
	type names []string
	without := [][]Runner{{{"a", noMark("DNF")}, {"b", noMark("DQ")}}, {{"c", noMark("DNS")}}}
	for _, x := range []struct {
		what            string
		l               [][]Runner
		place, time     int
		byPlace, byTime names
	}{
		{"the example", race(), 1, 1, names{"a", "d"}, names{"b", "c", "e"}},
		{"by place alone", race(), 1, 0, names{"a", "d"}, nil},
		{"tied at the last place", race(), 2, 0, names{"a", "b", "c", "d", "e"}, nil},
		{"by time alone", race(), 0, 2, nil, names{"a", "d"}},
		{"the best time", race(), 0, 1, nil, names{"a"}},
		{"tied at the last time", race(), 0, 3, nil, names{"a", "b", "c", "d", "e"}},
		{"nobody", race(), 0, 0, nil, nil},
		{"all with a time", race(), 3, 9, names{"a", "b", "c", "d", "e"}, nil},
		{"all with a time", race(), 0, 160, nil, names{"a", "b", "c", "d", "e"}},
		{"the greatest numbers", race(), 160, 160, names{"a", "b", "c", "d", "e"}, nil},
		{"no heats", nil, 1, 1, nil, nil},
		{"empty heats", make([][]Runner, 16), 1, 1, nil, nil},
		{"no times", without, 2, 2, nil, nil},
		{"a heat with one", [][]Runner{{{"a", timeOf(9)}}, {{"b", timeOf(1)}, {"c", timeOf(2)}, {"d", timeOf(3)}}}, 1, 1, names{"a", "b"}, names{"c"}},
		{"not sorted", [][]Runner{{{"a", timeOf(9)}, {"b", timeOf(1)}, {"c", timeOf(8)}}, {{"d", timeOf(7)}, {"e", timeOf(6)}}}, 1, 2, names{"b", "e"}, names{"c", "d"}},
		{"a place behind two first ones", [][]Runner{{{"a", timeOf(1)}, {"b", timeOf(1)}, {"c", timeOf(2)}, {"d", timeOf(3)}}}, 2, 0, names{"a", "b"}, nil},
		{"a place behind two first ones", [][]Runner{{{"a", timeOf(1)}, {"b", timeOf(1)}, {"c", timeOf(2)}, {"d", timeOf(3)}}}, 3, 1, names{"a", "b", "c"}, names{"d"}},
		{"two times behind those tied", [][]Runner{{{"a", timeOf(1)}, {"b", timeOf(1)}}, {{"c", timeOf(2)}}}, 0, 2, nil, names{"a", "b"}},
	} {
		byPlace, byTime, e := Advance(x.l, x.place, x.time)
		check(t, x.what+", by place", byPlace, x.byPlace)
		check(t, x.what+", by time", byTime, x.byTime)
		check(t, x.what, e, api.OK)
	}
	byPlace, byTime, e := Advance(crowd(16, 160), 159, 2)
	check(t, "full heats", e, api.OK)
	check(t, "by place", len(byPlace), 16*159)
	check(t, "by time", len(byTime), 16)
}

func TestErrorsOfAdvance(t *testing.T) {
	for want, heat := range wrongRunners() {
		byPlace, byTime, e := Advance([][]Runner{nil, heat}, -1, -1)
		check(t, "wrong runners", e, want)
		checkNothing(t, "Advance", []any{byPlace, byTime})
	}
	for _, x := range around(0, 160) {
		byPlace, byTime, e := Advance(race(), x.n, 1)
		check(t, "a place", e, x.want)
		if e != api.OK {
			checkNothing(t, "Advance", []any{byPlace, byTime})
		}
		byPlace, byTime, e = Advance(race(), 1, x.n)
		check(t, "a number by time", e, x.want)
		if e != api.OK {
			checkNothing(t, "Advance", []any{byPlace, byTime})
		}
	}
	_, _, e := Advance(make([][]Runner, 17), 1, 1)
	check(t, "17 heats", e, api.ErrMany)
}

func TestChanged(t *testing.T) {
	type names []string
	for _, x := range []struct {
		what        string
		place, time int
		r           Runner
		want        names
	}{
		{"the example", 1, 1, Runner{"b", timeOf(102500)}, names{"b"}},
		{"the same mark", 1, 1, Runner{"b", timeOf(102000)}, nil},
		{"a mark that changes nothing", 1, 1, Runner{"a", timeOf(100000)}, nil},
		{"another reason", 1, 1, Runner{"f", noMark("DQ")}, nil},
		{"the best one of the other heat", 1, 1, Runner{"f", timeOf(101200)}, names{"b", "c", "e", "f"}},
		{"another best time", 1, 1, Runner{"f", timeOf(101600)}, names{"b", "c", "e", "f"}},
		{"one more who is tied", 1, 1, Runner{"f", timeOf(102000)}, names{"f"}},
		{"the best one falls out", 1, 0, Runner{"a", noMark("DQ")}, names{"a", "b", "c"}},
		{"the best one falls out, of those by time", 1, 1, Runner{"a", noMark("DQ")}, names{"a"}},
		{"the best one is last", 1, 0, Runner{"a", timeOf(103000)}, names{"a", "b", "c"}},
		{"the best one is tied", 1, 0, Runner{"a", timeOf(102000)}, names{"b", "c"}},
		{"by place now, by time before", 1, 1, Runner{"b", timeOf(101000)}, nil},
		{"by place now, by time before, another one falls out", 1, 1, Runner{"c", timeOf(100900)}, names{"b", "e"}},
		{"nobody advances", 0, 0, Runner{"a", noMark("DQ")}, nil},
		{"the next two by time", 0, 1, Runner{"a", noMark("DNF")}, names{"a", "d"}},
	} {
		l, e := Changed(race(), x.place, x.time, x.r)
		check(t, x.what, l, x.want)
		check(t, x.what, e, api.OK)
	}
}

func TestErrorsOfChangedInOrder(t *testing.T) {
	type arguments struct {
		l           [][]Runner
		place, time int
		r           Runner
	}
	wrong := [][]Runner{{{"a", timeOf(1)}, {"a", timeOf(1)}}}
	climb(t, "Changed", arguments{wrong, -1, -1, Runner{"", api.Mark{}}},
		func(x arguments) api.Errno {
			l, e := Changed(x.l, x.place, x.time, x.r)
			if e != api.OK {
				checkNothing(t, "Changed", l)
			}
			return e
		},
		rung[arguments]{api.ErrTwice, func(x *arguments) { x.l = race() }},
		rung[arguments]{api.ErrRange, func(x *arguments) { x.place = 161 }},
		rung[arguments]{api.ErrRange, func(x *arguments) { x.place = 160 }},
		rung[arguments]{api.ErrRange, func(x *arguments) { x.time = 161 }},
		rung[arguments]{api.ErrRange, func(x *arguments) { x.time = 160 }},
		rung[arguments]{api.ErrName, func(x *arguments) { x.r.Name = "g" }},
		rung[arguments]{api.ErrKind, func(x *arguments) { x.r.Mark = api.Mark{Kind: "length", Reason: "NM", Value: -1} }},
		rung[arguments]{api.ErrForm, func(x *arguments) { x.r.Mark.Reason = "" }},
		rung[arguments]{api.ErrRange, func(x *arguments) { x.r.Mark.Value = 1 }},
		rung[arguments]{api.ErrKind, func(x *arguments) { x.r.Mark = timeOf(1) }},
		rung[arguments]{api.ErrUnknown, func(x *arguments) { x.r.Name = "f" }},
	)
	_, e := Changed(nil, 0, 0, Runner{"a", timeOf(1)})
	check(t, "no heats", e, api.ErrUnknown)
}

func TestMemoryOfChanged(t *testing.T) {
	l := race()
	names, _ := Changed(l, 1, 1, Runner{"f", timeOf(101200)})
	check(t, "the argument", l, race())
	clear(names)
	again, _ := Changed(l, 1, 1, Runner{"f", timeOf(101200)})
	check(t, "another call", again, []string{"b", "c", "e", "f"})
	byPlace, byTime, _ := Advance(l, 1, 1)
	check(t, "the argument of Advance", l, race())
	_ = append(byPlace, "x")
	check(t, "by time", byTime, []string{"b", "c", "e"})
}
