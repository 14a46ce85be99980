package seed

import (
	"slices"
	"strings"
	"testing"

	"stadion/api"
)

func TestCheckEntrants(t *testing.T) {
	for _, x := range []struct {
		what   string
		change func(l []Entrant)
		want   api.Errno
	}{
		{"the example", func(l []Entrant) {}, api.OK},
		{"no name", func(l []Entrant) { l[1].Name = "" }, api.ErrName},
		{"a wrong name", func(l []Entrant) { l[1].Name = "1st" }, api.ErrName},
		{"the longest name", func(l []Entrant) { l[1].Name = strings.Repeat("n", 24) }, api.OK},
		{"a name too long", func(l []Entrant) { l[1].Name = strings.Repeat("n", 25) }, api.ErrName},
		{"a name twice", func(l []Entrant) { l[4].Name = "ann" }, api.ErrTwice},
		{"a name like a club", func(l []Entrant) { l[4].Name = "red" }, api.OK},
		{"no club", func(l []Entrant) { l[0].Club = "" }, api.ErrName},
		{"a wrong club", func(l []Entrant) { l[4].Club = "_" }, api.ErrName},
		{"a club too long", func(l []Entrant) { l[4].Club = strings.Repeat("n", 25) }, api.ErrName},
		{"a club like a name", func(l []Entrant) { l[0].Club = "ann" }, api.OK},
		{"no mark", func(l []Entrant) { l[0].Mark = api.Mark{} }, api.ErrKind},
		{"a time with a reason", func(l []Entrant) { l[0].Mark.Reason = "DQ" }, api.ErrForm},
		{"no reason", func(l []Entrant) { l[3].Mark.Reason = "" }, api.ErrForm},
		{"the time 0", func(l []Entrant) { l[0].Mark.Value = 0 }, api.ErrRange},
		{"the greatest time", func(l []Entrant) { l[0].Mark.Value = 863999999 }, api.OK},
		{"a time too great", func(l []Entrant) { l[0].Mark.Value = 864000000 }, api.ErrRange},
		{"a length at the start", func(l []Entrant) { l[0].Mark = lengthOf(7) }, api.ErrKind},
		{"a length at the end", func(l []Entrant) { l[4].Mark = lengthOf(7) }, api.ErrKind},
		{"points behind no mark", func(l []Entrant) { l[4].Mark = pointsOf(7) }, api.ErrKind},
		{"a length and nothing else", func(l []Entrant) {
			for i := range l {
				l[i].Mark = noMark("DNS")
			}
			l[2].Mark = lengthOf(7)
		}, api.OK},
		{"a length and points among none", func(l []Entrant) {
			for i := range l {
				l[i].Mark = noMark("DNS")
			}
			l[1].Mark, l[4].Mark = lengthOf(7), pointsOf(7)
		}, api.ErrKind},
		{"no marks at all", func(l []Entrant) {
			for i := range l {
				l[i].Mark = noMark("DQ")
			}
		}, api.OK},
	} {
		check(t, x.what, CheckEntrants(changed(example(), x.change)), x.want)
	}
	check(t, "nobody", CheckEntrants(nil), api.OK)
	check(t, "160 entrants", CheckEntrants(field(160, 3)), api.OK)
	check(t, "161 entrants", CheckEntrants(field(161, 3)), api.ErrMany)
	check(t, "161 entrants without a name", CheckEntrants(make([]Entrant, 161)), api.ErrMany)
}

func TestErrorsOfEntrantsInOrder(t *testing.T) {
	climb(t, "entrants", append(field(160, 2), Entrant{"n0", "", api.Mark{}}), CheckEntrants,
		rung[[]Entrant]{api.ErrMany, func(l *[]Entrant) { *l = (*l)[158:] }},
		rung[[]Entrant]{api.ErrName, func(l *[]Entrant) { (*l)[2] = Entrant{"n159", "", api.Mark{}} }},
		rung[[]Entrant]{api.ErrTwice, func(l *[]Entrant) { (*l)[2].Name = "x" }},
		rung[[]Entrant]{api.ErrName, func(l *[]Entrant) { (*l)[2].Club = "c" }},
		rung[[]Entrant]{api.ErrKind, func(l *[]Entrant) { (*l)[2].Mark = api.Mark{Kind: "length", Reason: "NM", Value: -1} }},
		rung[[]Entrant]{api.ErrForm, func(l *[]Entrant) { (*l)[2].Mark.Reason = "" }},
		rung[[]Entrant]{api.ErrRange, func(l *[]Entrant) { (*l)[2].Mark.Value = 1 }},
		rung[[]Entrant]{api.ErrKind, func(l *[]Entrant) { (*l)[2].Mark = timeOf(1) }},
	)
	// different kinds in front, an error of an entrant behind
	l := []Entrant{{"a", "c", timeOf(1)}, {"b", "c", lengthOf(1)}, {"a", "c", timeOf(1)}}
	check(t, "kinds last", CheckEntrants(l), api.ErrTwice)
	// the first entrant with an error decides, not the first kind of error
	l = []Entrant{{"a", "", timeOf(0)}, {"", "c", timeOf(1)}}
	check(t, "the first entrant", CheckEntrants(changed(l, func(l []Entrant) { l[0].Club = "c" })), api.ErrRange)
}

func TestOrder(t *testing.T) {
	for _, key := range []int{1, 2, 3, 69621, 2147483646} {
		order, e := Order(example(), key)
		check(t, "the order", order, []int{1, 4, 2, 0, 3})
		check(t, "the error", e, api.OK)
	}
	for _, x := range []struct {
		what  string
		marks []api.Mark
		key   int
		want  []int
	}{
		{"nobody", nil, 1, nil},
		{"one", []api.Mark{noMark("NM")}, 1, []int{0}},
		{"times", []api.Mark{timeOf(2), timeOf(3), timeOf(1)}, 1, []int{2, 0, 1}},
		{"lengths", []api.Mark{lengthOf(2), lengthOf(3), lengthOf(1)}, 1, []int{1, 0, 2}},
		{"points", []api.Mark{pointsOf(0), pointsOf(3), pointsOf(1)}, 1, []int{1, 2, 0}},
		{"no mark behind the worst one", []api.Mark{noMark("NM"), pointsOf(0)}, 1, []int{1, 0}},
		// the drawn order of 3 elements is 2, 1, 0 by the key 1
		{"equal times", []api.Mark{timeOf(5), timeOf(5), timeOf(5)}, 1, []int{2, 1, 0}},
		{"no marks, for different reasons", []api.Mark{noMark("NM"), noMark("DNS"), noMark("DQ")}, 1, []int{2, 1, 0}},
		{"two equal times", []api.Mark{timeOf(5), timeOf(4), timeOf(5)}, 1, []int{1, 2, 0}},
		{"two without a mark", []api.Mark{noMark("NM"), timeOf(5), noMark("DNF")}, 1, []int{1, 2, 0}},
		// by the key 2 the places 0 and 2 are exchanged (139242 = 0 modulo 3), then x = 1104232694 is 0 modulo 2: the places 0 and 1
		{"equal times, by another key", []api.Mark{timeOf(5), timeOf(5), timeOf(5)}, 2, []int{1, 2, 0}},
	} {
		l := field(len(x.marks), 2)
		for i := range l {
			l[i].Mark = x.marks[i]
		}
		order, e := Order(l, x.key)
		check(t, x.what, order, x.want)
		check(t, x.what, e, api.OK)
	}
}

func TestErrorsOfOrder(t *testing.T) {
	checkOfEntrants(t, "Order", func(l []Entrant) (any, api.Errno) { return Order(l, 0) })
	for _, x := range around(1, 2147483646) {
		for _, l := range [][]Entrant{example(), nil} {
			order, e := Order(l, x.n)
			check(t, "Order by a key", e, x.want)
			if e != api.OK {
				checkNothing(t, "Order", order)
			}
		}
	}
}

func TestMemoryOfOrder(t *testing.T) {
	l := example()
	order, _ := Order(l, 1)
	check(t, "the argument", l, example())
	clear(order)
	again, _ := Order(l, 1)
	check(t, "another call", again, []int{1, 4, 2, 0, 3})
	if slices.Equal(order, again) {
		t.Error("two results share memory")
	}
}
