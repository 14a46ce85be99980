package score

import (
	"fmt"
	"math/rand"
	"slices"
	"testing"

	"stadion/api"
)

// ratified returns a claim that was ratified on its day.
func ratified(athlete string, day, length int) Claim {
	return Claim{Athlete: athlete, Mark: leap(length), Day: day, Ratified: day, Withdrawn: -1}
}

// ofClaims returns the functions of terms and claims, all of them on the day 50.
func ofClaims() map[string]func(x Terms, l []Claim) (any, api.Errno) {
	return map[string]func(x Terms, l []Claim) (any, api.Errno){
		"CheckClaims": func(x Terms, l []Claim) (any, api.Errno) { return nil, CheckClaims(x, l) },
		"Record":      func(x Terms, l []Claim) (any, api.Errno) { return Record(x, l, 50, 50) },
		"History":     func(x Terms, l []Claim) (any, api.Errno) { return History(x, l, 50) },
		"Pending":     func(x Terms, l []Claim) (any, api.Errno) { return Pending(x, l, 50) },
		"Held":        func(x Terms, l []Claim) (any, api.Errno) { return Held(x, l, "ann", 50) },
	}
}

// checked returns the error of a function, beside which there has to be nothing.
func checked(t *testing.T, what string, got any, e api.Errno) api.Errno {
	t.Helper()
	if e != api.OK {
		checkNothing(t, what, got)
	}
	return e
}

func TestErrorsOfTerms(t *testing.T) {
	all := ofClaims()
	all["Eligible"] = func(x Terms, l []Claim) (any, api.Errno) { return Eligible(x, l[0]) }
	for what, f := range all {
		l := []Claim{ratified("ann", 10, 5)}
		climb(t, what, Terms{"none", -2, -1}, func(x Terms) api.Errno {
			got, e := f(x, l)
			return checked(t, what, got, e)
		},
			rung[Terms]{api.ErrKind, func(x *Terms) { x.Kind = "length" }},
			rung[Terms]{api.ErrRange, func(x *Terms) { x.Wind = -1 }},
			rung[Terms]{api.ErrRange, func(x *Terms) { x.From = 0 }},
		)
		_, e := f(Terms{"", 0, 0}, make([]Claim, 257))
		check(t, what+", the terms ahead of the claims", e, api.ErrKind)
	}
	for kind, want := range map[string]api.Errno{"time": api.OK, "length": api.OK, "points": api.OK, "none": api.ErrKind, "": api.ErrKind, "Time": api.ErrKind} {
		check(t, "the kind "+kind, CheckClaims(Terms{kind, -1, 0}, nil), want)
	}
	checkRange(t, "the wind", -1, 999, func(n int) (any, api.Errno) { return nil, CheckClaims(Terms{"time", n, 0}, nil) })
	checkRange(t, "the first day", 0, 99999, func(n int) (any, api.Errno) { return nil, CheckClaims(Terms{"time", -1, n}, nil) })
}

func TestErrorsOfClaims(t *testing.T) {
	all := map[string]func(c Claim) (any, api.Errno){
		"Eligible": func(c Claim) (any, api.Errno) { return Eligible(terms(), c) },
	}
	for what, f := range ofClaims() {
		all[what] = func(c Claim) (any, api.Errno) {
			return f(terms(), []Claim{ratified("ann", 10, 5), c, ratified("bob", 10, 5)})
		}
	}
	for what, f := range all {
		climb(t, what, Claim{"1", api.Mark{Kind: "time", Value: 0, Reason: "NM"}, -1, 10000, -2, 5}, func(c Claim) api.Errno {
			got, e := f(c)
			return checked(t, what, got, e)
		},
			rung[Claim]{api.ErrName, func(c *Claim) { c.Athlete = "ann" }},
			rung[Claim]{api.ErrForm, func(c *Claim) { c.Mark.Reason = "" }},
			rung[Claim]{api.ErrRange, func(c *Claim) { c.Mark.Value = 1 }},
			rung[Claim]{api.ErrKind, func(c *Claim) { c.Mark.Kind = "length" }},
			rung[Claim]{api.ErrRange, func(c *Claim) { c.Day = 10 }},
			rung[Claim]{api.ErrRange, func(c *Claim) { c.Wind = 9999 }},
			rung[Claim]{api.ErrRange, func(c *Claim) { c.Ratified = 9 }},
			rung[Claim]{api.ErrRange, func(c *Claim) { c.Ratified = -1 }},
			rung[Claim]{api.ErrState, func(c *Claim) { c.Ratified = 10 }},
			rung[Claim]{api.ErrRange, func(c *Claim) { c.Withdrawn = -2 }},
			rung[Claim]{api.ErrRange, func(c *Claim) { c.Withdrawn = 10 }},
		)
	}
	for _, x := range []struct {
		what string
		c    Claim
		want api.Errno
	}{
		{"no mark", Claim{"ann", none("NM"), 1, 0, -1, -1}, api.ErrKind},
		{"not ratified", Claim{"ann", leap(5), 1, 0, -1, -1}, api.OK},
		{"on one day", Claim{"ann", leap(5), 1, 0, 1, 1}, api.OK},
		{"on the last days", Claim{"ann", leap(5), 99999, 0, 99999, 99999}, api.OK},
		{"withdrawn ahead of the ratification", Claim{"ann", leap(5), 1, 0, 3, 2}, api.ErrRange},
		{"withdrawn without a ratification", Claim{"ann", leap(5), 1, 0, -1, 1}, api.ErrState},
		{"withdrawn without a ratification, on no day", Claim{"ann", leap(5), 1, 0, -1, -2}, api.ErrState},
	} {
		check(t, x.what, CheckClaims(terms(), []Claim{x.c}), x.want)
	}
	claim := ratified("ann", 10, 5)
	checkRange(t, "a day", 0, 99999, func(n int) (any, api.Errno) {
		return nil, CheckClaims(terms(), []Claim{{"ann", leap(1), n, 0, -1, -1}})
	})
	checkRange(t, "a wind", -9999, 9999, func(n int) (any, api.Errno) {
		return nil, CheckClaims(terms(), []Claim{{"ann", leap(1), 1, n, -1, -1}})
	})
	checkRange(t, "a ratification", 10, 99999, func(n int) (any, api.Errno) {
		c := claim
		c.Ratified = n
		return nil, CheckClaims(terms(), []Claim{c})
	})
	checkRange(t, "a withdrawal", 20, 99999, func(n int) (any, api.Errno) {
		c := claim
		c.Ratified, c.Withdrawn = 20, n
		return nil, CheckClaims(terms(), []Claim{c})
	})
	many := func(n int) []Claim { return repeated(n, func(int) Claim { return claim }) }
	check(t, "256 claims", CheckClaims(terms(), many(256)), api.OK)
	check(t, "257 claims", CheckClaims(terms(), many(257)), api.ErrMany)
	check(t, "257 wrong claims", CheckClaims(terms(), make([]Claim, 257)), api.ErrMany)
	check(t, "two errors", CheckClaims(terms(), []Claim{claim, {"ann", leap(-1), 1, 0, -1, -1}, {}}), api.ErrRange)
}

func TestErrorsOfDays(t *testing.T) {
	l := claims()
	climb(t, "Record", [2]int{-1, -1}, func(x [2]int) api.Errno {
		got, e := Record(terms(), l, x[0], x[1])
		return checked(t, "Record", got, e)
	},
		rung[[2]int]{api.ErrRange, func(x *[2]int) { x[0] = 9 }},
		rung[[2]int]{api.ErrRange, func(x *[2]int) { x[1] = 8 }},
		rung[[2]int]{api.ErrOrder, func(x *[2]int) { x[1] = 9 }},
		rung[[2]int]{api.ErrNone, func(x *[2]int) { x[0], x[1] = 10, 10 }},
		rung[[2]int]{api.ErrNone, func(x *[2]int) { x[1] = 15 }},
	)
	_, e := Record(Terms{}, l, -1, -1)
	check(t, "the terms ahead of the days", e, api.ErrKind)
	for _, x := range []struct {
		what       string
		day, today int
		want       api.Errno
	}{
		{"a day behind all days", 100000, 5, api.ErrRange},
		{"today behind all days", 5, 100000, api.ErrRange},
		{"both", 100000, 100000, api.ErrRange},
		{"the last day", 99999, 99999, api.OK},
		{"the first day", 0, 0, api.ErrNone},
	} {
		got, e := Record(terms(), l, x.day, x.today)
		check(t, x.what, checked(t, x.what, got, e), x.want)
	}
	checkRange(t, "History", 0, 99999, func(n int) (any, api.Errno) { return History(terms(), l, n) })
	checkRange(t, "Pending", 0, 99999, func(n int) (any, api.Errno) { return Pending(terms(), l, n) })
	checkRange(t, "Held", 0, 99999, func(n int) (any, api.Errno) { return Held(terms(), l, "ann", n) })
	n, e := Held(terms(), l, "1", -1)
	checkBoth(t, "Held of no name", n, e, nil, api.ErrName)
	n, e = Held(Terms{}, l, "1", -1)
	checkBoth(t, "Held without terms", n, e, nil, api.ErrKind)
}

func TestEligible(t *testing.T) {
	for _, x := range []struct {
		limit, wind int
		want        bool
	}{
		{20, 200, true}, {20, 201, false}, {20, 191, true}, {20, -9999, true}, {20, 9999, false}, {19, 191, false}, {19, 190, true},
		{0, 0, true}, {0, 1, false}, {0, -1, true}, {-1, 9999, true}, {999, 9990, true}, {999, 9991, false},
	} {
		c := ratified("ann", 10, 5)
		c.Wind = x.wind
		is, e := Eligible(Terms{"length", x.limit, 0}, c)
		checkBoth(t, fmt.Sprint("a wind of ", x.wind, " up to ", x.limit), is, e, x.want, api.OK)
	}
	for from, want := range map[int]bool{9: true, 10: true, 11: false} {
		is, e := Eligible(Terms{"length", -1, from}, ratified("ann", 10, 5))
		checkBoth(t, fmt.Sprint("the first day ", from), is, e, want, api.OK)
	}
	is, e := Eligible(terms(), Claim{"ann", leap(5), 10, 0, -1, -1})
	checkBoth(t, "not ratified", is, e, true, api.OK)
	is, e = Eligible(terms(), Claim{"ann", leap(5), 10, 0, 10, 10})
	checkBoth(t, "withdrawn", is, e, true, api.OK)
}

func TestRecord(t *testing.T) {
	at := func(day, ratified, withdrawn, length int) Claim {
		return Claim{"ann", leap(length), day, 0, ratified, withdrawn}
	}
	for _, x := range []struct {
		what       string
		l          []Claim
		day, today int
		want       []int
	}{
		{"on its day", []Claim{at(10, 10, -1, 5)}, 10, 10, []int{0}},
		{"ahead of its day", []Claim{at(10, 10, -1, 5)}, 9, 10, nil},
		{"ahead of its ratification", []Claim{at(10, 12, -1, 5)}, 10, 11, nil},
		{"on the day of its ratification", []Claim{at(10, 12, -1, 5)}, 10, 12, []int{0}},
		{"ahead of its withdrawal", []Claim{at(10, 12, 14, 5)}, 10, 13, []int{0}},
		{"on the day of its withdrawal", []Claim{at(10, 12, 14, 5)}, 10, 14, nil},
		{"equal marks", []Claim{at(12, 12, -1, 5), at(10, 10, -1, 5), at(11, 11, -1, 4), at(10, 10, -1, 5)}, 12, 20, []int{0, 1, 3}},
		{"a better one later", []Claim{at(10, 10, -1, 5), at(11, 11, -1, 6)}, 10, 20, []int{0}},
		{"a worse one later", []Claim{at(10, 10, -1, 5), at(11, 11, -1, 4)}, 20, 20, []int{0}},
		{"two of one day", []Claim{at(10, 10, -1, 5), at(10, 10, -1, 6)}, 10, 10, []int{1}},
	} {
		wanted := api.OK
		if len(x.want) == 0 {
			wanted = api.ErrNone
		}
		l, e := Record(terms(), x.l, x.day, x.today)
		checkBoth(t, x.what, l, e, x.want, wanted)
	}
	times := []Claim{{"ann", run(100), 1, 0, 1, -1}, {"bob", run(99), 2, 201, 2, -1}, {"cat", run(101), 3, 0, 3, -1}}
	for wind, want := range map[int]int{20: 0, 21: 1, -1: 1} {
		l, e := Record(Terms{"time", wind, 0}, times, 9, 9)
		checkBoth(t, "the least time", l, e, []int{want}, api.OK)
	}
	l, e := Record(Terms{"points", -1, 0}, []Claim{{"ann", pointed(7), 1, 0, 1, -1}, {"bob", pointed(8), 1, 0, 1, -1}}, 9, 9)
	checkBoth(t, "the greatest number of points", l, e, []int{1}, api.OK)
}

func TestHistory(t *testing.T) {
	for _, x := range []struct {
		what  string
		l     []Claim
		today int
		want  []Change
	}{
		{"nothing", nil, 50, nil},
		{"an equal mark", []Claim{ratified("ann", 20, 5), ratified("bob", 10, 5)}, 50, []Change{{10, []int{1}}, {20, []int{0}}}},
		{"two equal marks of one day", []Claim{ratified("ann", 20, 5), ratified("bob", 10, 4), ratified("cat", 20, 5)}, 50, []Change{{10, []int{1}}, {20, []int{0, 2}}}},
		{"a worse mark", []Claim{ratified("ann", 20, 4), ratified("bob", 10, 5)}, 50, []Change{{10, []int{1}}}},
		{"a worse mark of one day", []Claim{ratified("ann", 20, 4), ratified("bob", 20, 5)}, 50, []Change{{20, []int{1}}}},
		{"a later day", []Claim{ratified("ann", 51, 4), ratified("bob", 50, 3)}, 50, []Change{{50, []int{1}}}},
		{"the first day", []Claim{ratified("ann", 0, 4)}, 0, []Change{{0, []int{0}}}},
	} {
		l, e := History(terms(), x.l, x.today)
		checkBoth(t, x.what, l, e, x.want, api.OK)
	}
}

func TestPending(t *testing.T) {
	open := func(day, length int) Claim { return Claim{"ann", leap(length), day, 0, -1, -1} }
	for _, x := range []struct {
		what  string
		l     []Claim
		today int
		want  []int
	}{
		{"nothing", nil, 50, nil},
		{"without a record", []Claim{open(10, 5), open(10, 6), open(9, 4)}, 50, []int{0, 1, 2}},
		{"on its day", []Claim{open(10, 5)}, 10, []int{0}},
		{"ahead of its day", []Claim{open(10, 5)}, 9, nil},
		{"ratified", []Claim{ratified("ann", 10, 5)}, 10, nil},
		{"ratified later", []Claim{{"ann", leap(5), 10, 0, 12, -1}}, 11, []int{0}},
		{"ratified today", []Claim{{"ann", leap(5), 10, 0, 12, -1}}, 12, nil},
		{"withdrawn later", []Claim{{"ann", leap(5), 10, 0, 12, 13}}, 11, []int{0}},
		{"withdrawn", []Claim{{"ann", leap(5), 10, 0, 12, 13}}, 13, nil},
		{"better than the record", []Claim{ratified("bob", 10, 5), open(10, 6)}, 50, []int{1}},
		{"equal to the record", []Claim{ratified("bob", 10, 5), open(10, 5)}, 50, []int{1}},
		{"worse than the record", []Claim{ratified("bob", 10, 5), open(10, 4)}, 50, nil},
		{"worse than a later record", []Claim{ratified("bob", 11, 5), open(10, 4)}, 50, []int{1}},
		{"worse than a record that was withdrawn", []Claim{{"bob", leap(5), 10, 0, 10, 20}, open(10, 4)}, 20, []int{1}},
		{"too early for the terms", []Claim{open(1, 5)}, 50, nil},
	} {
		y := terms()
		y.From = 2
		l, e := Pending(y, x.l, x.today)
		checkBoth(t, x.what, l, e, x.want, api.OK)
	}
	l, e := Pending(Terms{"length", 20, 0}, []Claim{{"ann", leap(5), 10, 201, -1, -1}, {"ann", leap(5), 10, 200, -1, -1}}, 50)
	checkBoth(t, "too much wind", l, e, []int{1}, api.OK)
}

func TestHeld(t *testing.T) {
	for _, x := range []struct {
		what  string
		l     []Claim
		today int
		want  int
	}{
		{"nothing", nil, 50, 0},
		{"from the first day on", []Claim{ratified("ann", 0, 5)}, 50, 51},
		{"on one day", []Claim{ratified("ann", 50, 5)}, 50, 1},
		{"until a better mark", []Claim{ratified("ann", 10, 5), ratified("bob", 20, 6)}, 50, 10},
		{"until a better one of her own", []Claim{ratified("ann", 10, 5), ratified("ann", 20, 6)}, 50, 41},
		{"with another one", []Claim{ratified("ann", 10, 5), ratified("bob", 20, 5)}, 50, 41},
		{"twice on one day", []Claim{ratified("ann", 10, 5), ratified("ann", 10, 5)}, 50, 41},
		{"again", []Claim{ratified("ann", 10, 5), ratified("bob", 20, 6), ratified("ann", 45, 7)}, 50, 16},
		{"a worse mark", []Claim{ratified("ann", 20, 5), ratified("bob", 20, 6)}, 50, 0},
		{"others alone", []Claim{ratified("bob", 20, 6)}, 50, 0},
		{"known later", []Claim{{"ann", leap(5), 10, 0, 30, -1}}, 29, 0},
		{"known now", []Claim{{"ann", leap(5), 10, 0, 30, -1}}, 30, 21},
		{"withdrawn", []Claim{{"ann", leap(5), 10, 0, 30, 40}}, 40, 0},
	} {
		n, e := Held(terms(), x.l, "ann", x.today)
		checkBoth(t, x.what, n, e, x.want, api.OK)
	}
}

// randomClaims returns terms and claims with few days and few different marks.
func randomClaims(r *rand.Rand) (Terms, []Claim) {
	x := Terms{Kind: []string{"time", "length", "points"}[r.Intn(3)], Wind: r.Intn(4) - 1, From: r.Intn(4)}
	return x, repeated(r.Intn(9), func(int) Claim {
		c := Claim{[]string{"a", "b", "c"}[r.Intn(3)], api.Mark{Kind: x.Kind, Value: 1 + r.Intn(5)}, r.Intn(20), r.Intn(30), -1, -1}
		if r.Intn(4) > 0 {
			c.Ratified = c.Day + r.Intn(5)
			if r.Intn(4) == 0 {
				c.Withdrawn = c.Ratified + r.Intn(9)
			}
		}
		return c
	})
}

// recordByDefinition returns the record of a day, as known today.
func recordByDefinition(x Terms, l []Claim, day, today int) []int {
	var numbers []int
	for i, c := range l {
		if stood(x, c, today) && c.Day <= day && !slices.ContainsFunc(l, func(other Claim) bool {
			return stood(x, other, today) && other.Day <= day && beats(other.Mark, c.Mark)
		}) {
			numbers = append(numbers, i)
		}
	}
	return numbers
}

func eligible(x Terms, c Claim) bool {
	return c.Day >= x.From && (x.Wind < 0 || c.Wind <= 10*x.Wind)
}

func stood(x Terms, c Claim, today int) bool {
	return eligible(x, c) && c.Ratified >= 0 && c.Ratified <= today && (c.Withdrawn < 0 || c.Withdrawn > today)
}

func beats(a, b api.Mark) bool {
	if a.Kind == "time" {
		return a.Value < b.Value
	}
	return a.Value > b.Value
}

func TestRandomRecords(t *testing.T) {
	r := rand.New(rand.NewSource(9))
	for range 3000 {
		x, l := randomClaims(r)
		today := r.Intn(30)
		what := fmt.Sprint(" of ", x, l, " on the day ", today)
		var history []Change
		held := map[string]int{}
		for day := range today + 1 {
			want, wanted := recordByDefinition(x, l, day, today), api.OK
			if len(want) == 0 {
				wanted = api.ErrNone
			}
			record, e := Record(x, l, day, today)
			checkBoth(t, fmt.Sprint("the record of the day ", day, what), record, e, want, wanted)
			holders := map[string]bool{}
			var now []int
			for _, i := range want {
				holders[l[i].Athlete] = true
				if l[i].Day == day {
					now = append(now, i)
				}
			}
			if len(now) > 0 {
				history = append(history, Change{day, now})
			}
			for athlete := range holders {
				held[athlete]++
			}
		}
		changes, e := History(x, l, today)
		checkBoth(t, "the history"+what, changes, e, history, api.OK)
		for _, athlete := range []string{"a", "b", "c", "d"} {
			n, e := Held(x, l, athlete, today)
			checkBoth(t, "the days of "+athlete+what, n, e, held[athlete], api.OK)
		}
		var pending []int
		for i, c := range l {
			is, e := Eligible(x, c)
			checkBoth(t, fmt.Sprint("whether a claim is eligible", c), is, e, eligible(x, c), api.OK)
			if eligible(x, c) && c.Day <= today && (c.Ratified < 0 || c.Ratified > today) &&
				!slices.ContainsFunc(recordByDefinition(x, l, c.Day, today), func(j int) bool { return beats(l[j].Mark, c.Mark) }) {
				pending = append(pending, i)
			}
		}
		numbers, e := Pending(x, l, today)
		checkBoth(t, "what is pending"+what, numbers, e, pending, api.OK)
	}
}
