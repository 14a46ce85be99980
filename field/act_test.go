package field

import (
	"strings"
	"testing"

	"stadion/api"
)

func TestCheckAct(t *testing.T) {
	for _, x := range []struct {
		kind             string
		trials, vertical api.Errno
	}{
		{"mark", api.OK, api.ErrKind},
		{"foul", api.OK, api.ErrKind},
		{"pass", api.OK, api.OK},
		{"retire", api.OK, api.OK},
		{"clear", api.ErrKind, api.OK},
		{"fail", api.ErrKind, api.OK},
		{"", api.ErrKind, api.ErrKind},
		{"Mark", api.ErrKind, api.ErrKind},
		{"mark ", api.ErrKind, api.ErrKind},
	} {
		for heights, want := range map[bool]api.Errno{false: x.trials, true: x.vertical} {
			check(t, x.kind, CheckAct(Act{"ann", x.kind, 0}, heights), want)
			check(t, x.kind+" without a name", CheckAct(Act{"", x.kind, -1}, heights), api.ErrName)
			if want == api.ErrKind {
				check(t, x.kind+" with a value", CheckAct(Act{"ann", x.kind, -1}, heights), want)
				continue
			}
			most := map[string]int{"mark": 999999}[x.kind]
			checkRange(t, x.kind, 0, most, func(n int) api.Errno { return CheckAct(Act{"ann", x.kind, n}, heights) })
		}
	}
	for name, want := range map[string]api.Errno{"a": api.OK, "A_1": api.OK, "_a": api.ErrName, "a b": api.ErrName, "é": api.ErrName,
		strings.Repeat("z", 24): api.OK, strings.Repeat("z", 25): api.ErrName} {
		check(t, name, CheckAct(Act{name, "pass", 0}, false), want)
		check(t, name, CheckAct(Act{name, "pass", 0}, true), want)
	}
}

func TestCorrected(t *testing.T) {
	l := throws("ann 5000 bob F cat P")
	for number, want := range map[int]string{1: "bob 7 bob F cat P", 2: "ann 5000 bob 7 cat P", 3: "ann 5000 bob F bob 7"} {
		x, e := Corrected(l, number, throws("bob 7")[0], false)
		check(t, "Corrected", x, throws(want))
		check(t, "Corrected", e, api.OK)
		check(t, "the acts", l, throws("ann 5000 bob F cat P"))
	}
	x, e := Corrected(jumps("ann o"), 1, jumps("zoe r")[0], true)
	check(t, "over heights", x, jumps("zoe r"))
	check(t, "over heights", e, api.OK)
	x, e = Corrected(throws(strings.Repeat("ann F ", 1000)), 1000, throws("bob 7")[0], false)
	check(t, "as many acts as possible", x, throws(strings.Repeat("ann F ", 999)+"bob 7"))
	check(t, "as many acts as possible", e, api.OK)
	x, _ = Corrected(l, 1, l[0], false)
	x[1].Athlete = "zoe"
	check(t, "the acts", l, throws("ann 5000 bob F cat P"))
}

func TestErrorsOfCorrected(t *testing.T) {
	type value struct {
		l       []Act
		number  int
		a       Act
		heights bool
	}
	climb(t, "Corrected", value{make([]Act, 1001), 0, Act{}, false},
		func(x value) api.Errno {
			l, e := Corrected(x.l, x.number, x.a, x.heights)
			if e != api.OK {
				checkNothing(t, "Corrected", l)
			}
			return e
		},
		rung[value]{api.ErrMany, func(x *value) { x.l = make([]Act, 1000) }},
		rung[value]{api.ErrName, func(x *value) { x.l = []Act{{"ann", "clear", 1}, {}} }},
		rung[value]{api.ErrKind, func(x *value) { x.heights = true }},
		rung[value]{api.ErrRange, func(x *value) { x.l[0].Value = 0 }},
		rung[value]{api.ErrName, func(x *value) { x.l = x.l[:1] }},
		rung[value]{api.ErrName, func(x *value) { x.a.Athlete = "bob" }},
		rung[value]{api.ErrKind, func(x *value) { x.a.Kind = "foul" }},
		rung[value]{api.ErrKind, func(x *value) { x.a.Kind = "fail"; x.a.Value = 5 }},
		rung[value]{api.ErrRange, func(x *value) { x.a.Value = 0 }},
		rung[value]{api.ErrUnknown, func(x *value) { x.number = 2 }},
		rung[value]{api.ErrUnknown, func(x *value) { x.number = 1 }})
	for _, number := range []int{-1 << 63, -1, 0, 3, 4, 1<<63 - 1} {
		_, e := Corrected(throws("ann 1 bob 2"), number, throws("cat 3")[0], false)
		check(t, "no act", e, api.ErrUnknown)
	}
	_, e := Corrected(nil, 1, throws("cat 3")[0], false)
	check(t, "no acts", e, api.ErrUnknown)
	_, e = Corrected(nil, 0, throws("cat 3")[0], false)
	check(t, "no acts", e, api.ErrUnknown)
}
