package seed

import (
	"slices"
	"strings"
	"testing"

	"stadion/api"
)

func TestCheckRunners(t *testing.T) {
	for _, x := range []struct {
		what   string
		change func(l [][]Runner)
		want   api.Errno
	}{
		{"the example", func(l [][]Runner) {}, api.OK},
		{"an empty heat", func(l [][]Runner) { l[0] = nil }, api.OK},
		{"no name", func(l [][]Runner) { l[1][1].Name = "" }, api.ErrName},
		{"a wrong name", func(l [][]Runner) { l[0][1].Name = "b b" }, api.ErrName},
		{"the longest name", func(l [][]Runner) { l[0][1].Name = strings.Repeat("n", 24) }, api.OK},
		{"a name too long", func(l [][]Runner) { l[0][1].Name = strings.Repeat("n", 25) }, api.ErrName},
		{"a name twice in a heat", func(l [][]Runner) { l[0][2].Name = "a" }, api.ErrTwice},
		{"a name in two heats", func(l [][]Runner) { l[1][0].Name = "a" }, api.ErrTwice},
		{"no kind", func(l [][]Runner) { l[0][0].Mark = api.Mark{} }, api.ErrKind},
		{"a reason of a time", func(l [][]Runner) { l[0][0].Mark.Reason = "DQ" }, api.ErrForm},
		{"a wrong reason", func(l [][]Runner) { l[1][2].Mark.Reason = "DNQ" }, api.ErrForm},
		{"the time 0", func(l [][]Runner) { l[0][0].Mark.Value = 0 }, api.ErrRange},
		{"the least time", func(l [][]Runner) { l[0][0].Mark.Value = 1 }, api.OK},
		{"the greatest time", func(l [][]Runner) { l[0][0].Mark.Value = 863999999 }, api.OK},
		{"a time too great", func(l [][]Runner) { l[0][0].Mark.Value = 864000000 }, api.ErrRange},
		{"a length", func(l [][]Runner) { l[0][0].Mark = lengthOf(1) }, api.ErrKind},
		{"points", func(l [][]Runner) { l[1][2].Mark = pointsOf(1) }, api.ErrKind},
		{"did not start", func(l [][]Runner) { l[0][0].Mark = noMark("DNS") }, api.OK},
	} {
		check(t, x.what, CheckRunners(changed(race(), x.change)), x.want)
	}
	check(t, "no heats", CheckRunners(nil), api.OK)
	check(t, "16 full heats", CheckRunners(crowd(16, 160)), api.OK)
	check(t, "17 heats", CheckRunners(crowd(17, 1)), api.ErrMany)
	check(t, "17 empty heats", CheckRunners(make([][]Runner, 17)), api.ErrMany)
	check(t, "161 runners", CheckRunners(crowd(1, 161)), api.ErrMany)
	check(t, "161 runners of the second heat", CheckRunners([][]Runner{nil, crowd(1, 161)[0]}), api.ErrMany)
}

func TestErrorsOfRunnersInOrder(t *testing.T) {
	type heats = [][]Runner
	l := crowd(17, 1)
	l[3] = make([]Runner, 161)
	climb(t, "runners", l, CheckRunners,
		rung[heats]{api.ErrMany, func(l *heats) { *l = (*l)[:4] }},
		rung[heats]{api.ErrMany, func(l *heats) { (*l)[3] = []Runner{{"x", timeOf(1)}, {}} }},
		rung[heats]{api.ErrName, func(l *heats) { (*l)[3][1].Name = "n2" }},
		rung[heats]{api.ErrTwice, func(l *heats) { (*l)[3][1].Name = "x" }},
		rung[heats]{api.ErrTwice, func(l *heats) { (*l)[3][1].Name = "y" }},
		rung[heats]{api.ErrKind, func(l *heats) { (*l)[3][1].Mark = api.Mark{Kind: "length", Reason: "NM", Value: -1} }},
		rung[heats]{api.ErrForm, func(l *heats) { (*l)[3][1].Mark.Reason = "" }},
		rung[heats]{api.ErrRange, func(l *heats) { (*l)[3][1].Mark.Value = 1 }},
		rung[heats]{api.ErrKind, func(l *heats) { (*l)[3][1].Mark = timeOf(1) }},
	)
	// the first heat with an error decides, and its first runner with one
	check(t, "the first heat", CheckRunners(heats{{{"a", lengthOf(1)}}, make([]Runner, 161)}), api.ErrKind)
	check(t, "the first runner", CheckRunners(heats{{{"a", lengthOf(1)}, {"", timeOf(1)}}}), api.ErrKind)
}

func TestPlaces(t *testing.T) {
	for _, x := range []struct {
		what  string
		marks []api.Mark
		want  []int
	}{
		{"nobody", nil, nil},
		{"one", []api.Mark{timeOf(9)}, []int{1}},
		{"one who did not finish", []api.Mark{noMark("DNF")}, []int{0}},
		{"the first heat of the example", []api.Mark{timeOf(101000), timeOf(102000), timeOf(102000)}, []int{1, 2, 2}},
		{"the second one", []api.Mark{timeOf(101500), timeOf(102000), noMark("DNF")}, []int{1, 2, 0}},
		{"upwards", []api.Mark{timeOf(1), timeOf(2), timeOf(3)}, []int{1, 2, 3}},
		{"downwards", []api.Mark{timeOf(3), timeOf(2), timeOf(1)}, []int{3, 2, 1}},
		{"two first ones", []api.Mark{timeOf(3), timeOf(1), timeOf(1)}, []int{3, 1, 1}},
		{"all at once", []api.Mark{timeOf(7), timeOf(7), timeOf(7)}, []int{1, 1, 1}},
		{"not rounded", []api.Mark{timeOf(100001), timeOf(100000)}, []int{2, 1}},
		{"without times between", []api.Mark{noMark("DQ"), timeOf(2), noMark("DNS"), timeOf(1), noMark("NM")}, []int{0, 2, 0, 1, 0}},
	} {
		l := make([]Runner, len(x.marks))
		for i, name := range numbered(len(l)) {
			l[i] = Runner{name, x.marks[i]}
		}
		places, e := Places(l)
		check(t, x.what, places, x.want)
		check(t, x.what, e, api.OK)
	}
	places, e := Places(crowd(1, 160)[0])
	check(t, "160 runners", e, api.OK)
	check(t, "the last place", places[159], 160)
}

// wrongRunners has for some errors a heat with it.
func wrongRunners() map[api.Errno][]Runner {
	return map[api.Errno][]Runner{
		api.ErrMany:  make([]Runner, 161),
		api.ErrName:  {{"", timeOf(1)}},
		api.ErrTwice: {{"a", timeOf(1)}, {"a", timeOf(2)}},
		api.ErrForm:  {{"a", noMark("")}},
		api.ErrRange: {{"a", timeOf(0)}},
		api.ErrKind:  {{"a", pointsOf(1)}},
	}
}

func TestErrorsOfPlaces(t *testing.T) {
	for want, l := range wrongRunners() {
		places, e := Places(l)
		check(t, "Places", e, want)
		checkNothing(t, "Places", places)
	}
}

func TestMemoryOfPlaces(t *testing.T) {
	l := slices.Concat(race()...)
	places, _ := Places(l)
	check(t, "the argument", l, slices.Concat(race()...))
	clear(places)
	again, _ := Places(l)
	check(t, "another call", again, []int{1, 3, 3, 2, 3, 0})
}
