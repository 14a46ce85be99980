package field

import (
	"slices"
	"strings"
	"testing"

	"stadion/api"
)

// checkOfRows checks the errors of rows, and that nothing stands beside them.
func checkOfRows(t *testing.T, what string, f func(l []Row) (any, api.Errno)) {
	t.Helper()
	bad := Row{Athlete: "zoe", Trials: []int{-3}}
	long := Row{Athlete: "zoe", Trials: []int{-3, 0, 0, 0, 0, 0, 0}}
	for _, x := range []struct {
		what string
		l    []Row
		want api.Errno
	}{
		{"as many as possible", each(names(32), row), api.OK},
		{"one too many", each(names(33), row), api.ErrMany},
		{"one too many, without names", make([]Row, 33), api.ErrMany},
		{"no name", []Row{{}}, api.ErrName},
		{"no name behind a name", []Row{row("ann"), {Athlete: "a-b"}}, api.ErrName},
		{"one twice", rows("ann 1", "bob 1", "ann 2"), api.ErrTwice},
		{"twice no name", []Row{{}, {}}, api.ErrName},
		{"six trials", rows("ann 1 2 3 4 5 6"), api.OK},
		{"seven trials", rows("ann 1 2 3 4 5 6 7"), api.ErrMany},
		{"seven trials, one no trial", []Row{long}, api.ErrMany},
		{"no trial", []Row{bad}, api.ErrRange},
		{"twice, and no trial", []Row{row("zoe"), bad}, api.ErrTwice},
		{"twice, and seven trials", []Row{row("zoe"), long}, api.ErrTwice},
		{"no name, and no trial", []Row{{Trials: []int{-3}}}, api.ErrName},
		{"no trial, then no name", []Row{bad, {}}, api.ErrRange},
		{"no name, then no trial", []Row{{}, bad}, api.ErrName},
	} {
		got, e := f(x.l)
		check(t, what+": "+x.what, e, x.want)
		if e != api.OK {
			checkNothing(t, what, got)
		}
	}
	for place := range 6 {
		checkRange(t, what+", a trial", -2, 999999, func(n int) api.Errno {
			r := row("ann 1 2 3 4 5 6")
			r.Trials[place] = n
			_, e := f([]Row{row("bob"), r})
			return e
		})
	}
}

func TestCheckRows(t *testing.T) {
	check(t, "no rows", CheckRows(nil), api.OK)
	checkOfRows(t, "CheckRows", func(l []Row) (any, api.Errno) { return nil, CheckRows(l) })
	checkOfRows(t, "Ranking", func(l []Row) (any, api.Errno) { return Ranking(l) })
	checkOfRows(t, "Results", func(l []Row) (any, api.Errno) { return Results(l) })
}

func TestRanking(t *testing.T) {
	for _, x := range []struct {
		what string
		l    []Row
		want []Place
	}{
		{"nobody", nil, nil},
		{"one", rows("ann 7"), places("ann 1 7")},
		{"the greatest mark", rows("ann 7 9 8"), places("ann 1 9")},
		{"the greatest marks decide", rows("ann 7", "bob 9", "cat 8"), places("bob 1 9", "cat 2 8", "ann 3 7")},
		{"then the second ones", rows("ann 9 1", "bob 2 9"), places("bob 1 9", "ann 2 9")},
		{"then the third ones", rows("ann 9 1 5", "bob 2 9 5"), places("bob 1 9", "ann 2 9")},
		{"fouls and passes count nothing", rows("ann F 9 P 5", "bob 5 9 F F"), places("ann 1 9", "bob 1 9")},
		{"a mark of 0 is more than none", rows("ann 9 F", "bob 9 0"), places("bob 1 9", "ann 2 9")},
		{"a beginning is less", rows("ann 9 8", "bob 9 8 7", "cat 9"), places("bob 1 9", "ann 2 9", "cat 3 9")},
		{"a greater second one, and fewer", rows("ann 9 7 6", "bob 9 8"), places("bob 1 9", "ann 2 9")},
		{"equal ones in their order", rows("cat 5", "ann 5", "bob 5 F"), places("cat 1 5", "ann 1 5", "bob 1 5")},
		{"behind equal ones", rows("dan 4", "cat 5", "ann 5", "bob 3"), places("cat 1 5", "ann 1 5", "dan 3 4", "bob 4 3")},
		{"without marks", rows("ann F", "bob r", "cat 0", "dan", "eva P r", "fay F P"), places("cat 1 0", "ann 0 NM", "bob 0 DNS", "dan 0 NM", "eva 0 NM", "fay 0 NM")},
		{"nobody with a mark", rows("cat r", "ann", "bob r"), places("cat 0 DNS", "ann 0 NM", "bob 0 DNS")},
		{"retired with a mark", rows("ann 3 r", "bob 2"), places("ann 1 3", "bob 2 2")},
		{"marks of any millimetre", rows("ann 999999", "bob 999998 999998"), places("ann 1 999999", "bob 2 999998")},
		{"ranks with two digits", rows("a 1", "b 2", "c 3", "d 4", "e 5", "f 6", "g 7", "h 8", "i 9", "j 10", "k F"),
			places("j 1 10", "i 2 9", "h 3 8", "g 4 7", "f 5 6", "e 6 5", "d 7 4", "c 8 3", "b 9 2", "a 10 1", "k 0 NM")},
	} {
		given := slices.Clone(x.l)
		p, e := Ranking(x.l)
		check(t, x.what, p, x.want)
		check(t, x.what, e, api.OK)
		r, e := Results(x.l)
		check(t, x.what+", the results", r, each(x.want, func(p Place) api.Result { return api.Result{Athlete: p.Athlete, Mark: p.Mark} }))
		check(t, x.what, e, api.OK)
		check(t, x.what+", the rows", x.l, given)
	}
}

func TestFinalists(t *testing.T) {
	for _, x := range []struct {
		what string
		c    Contest
		l    []Row
		want string
	}{
		{"the worst one first", contest("ann bob cat", 1, 2, 1), rows("ann 3", "bob 1", "cat 2"), "cat ann"},
		{"all", contest("ann bob cat", 1, 3, 1), rows("ann 3", "bob 1", "cat 2"), "bob cat ann"},
		{"more than there are", contest("ann bob cat", 1, 32, 1), rows("ann 3", "bob 1", "cat 2"), "bob cat ann"},
		{"one", contest("ann bob cat", 1, 1, 1), rows("ann 3", "bob 1", "cat 2"), "ann"},
		{"equal ones at the end", contest("ann bob cat", 1, 2, 1), rows("ann 1", "bob 3", "cat 1"), "ann cat bob"},
		{"equal ones in front", contest("ann bob cat", 1, 2, 1), rows("ann 3", "bob 1", "cat 3"), "ann cat"},
		{"all equal", contest("ann bob cat", 1, 1, 1), rows("ann 3", "bob 3", "cat 3"), "ann bob cat"},
		{"the first trials alone", contest("ann bob", 2, 1, 1), rows("ann 1 1 9", "bob 2 2 2"), "bob"},
		{"a mark behind the first trials", contest("ann bob", 2, 2, 1), rows("ann F F 9", "bob 2 2"), "bob"},
		{"nobody", contest("ann bob", 2, 2, 1), rows("ann F F 9", "bob"), ""},
		{"one who has retired", contest("ann bob", 2, 1, 1), rows("ann 5 r", "bob 4 4"), "ann"},
		{"before all trials", contest("ann bob", 3, 1, 1), rows("ann 5", "bob 6"), "bob"},
	} {
		f, e := Finalists(x.c, x.l)
		check(t, x.what, f, strings.Fields(x.want))
		check(t, x.what, e, api.OK)
	}
}

func TestErrorsOfFinalists(t *testing.T) {
	type value struct {
		c Contest
		l []Row
	}
	climb(t, "Finalists", value{Contest{Trials: 7}, []Row{{}}},
		func(x value) api.Errno {
			f, e := Finalists(x.c, x.l)
			if e != api.OK {
				checkNothing(t, "Finalists", f)
			}
			return e
		},
		rung[value]{api.ErrEmpty, func(x *value) { x.c.Athletes = []string{"ann", "bob"} }},
		rung[value]{api.ErrRange, func(x *value) { x.c.Trials = 2 }},
		rung[value]{api.ErrName, func(x *value) { x.l[0].Athlete = "zoe" }},
		rung[value]{api.ErrShape, func(x *value) { x.l = rows("ann 1", "bob 1", "cat 1") }},
		rung[value]{api.ErrShape, func(x *value) { x.l = rows("bob 1", "ann 1") }},
		rung[value]{api.ErrUnknown, func(x *value) { x.l = rows("ann 1", "cat 1") }},
		rung[value]{api.ErrUnknown, func(x *value) { x.l = rows("ann 1", "bob 1") }},
		rung[value]{api.ErrNone, func(x *value) { x.c.More, x.c.Finalists = 1, 1 }})
	_, e := Finalists(exampleC(), nil)
	check(t, "no rows", e, api.ErrShape)
	c := exampleC()
	f, _ := Finalists(c, rows("ann 1", "bob 1", "cat 1"))
	f[0] = "zoe"
	check(t, "the competition", c, exampleC())
	checkOfRows(t, "Finalists", func(l []Row) (any, api.Errno) {
		names := each(l, func(r Row) string { return r.Athlete })
		if CheckContest(Contest{Athletes: names, Trials: 1}) != api.OK {
			names = []string{"ann"}
		}
		return Finalists(Contest{Athletes: names, Trials: 1, Finalists: 1, More: 1}, l)
	})
}
