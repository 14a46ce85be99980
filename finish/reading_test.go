package finish

import (
	"math/rand"
	"testing"

	"stadion/api"
)

func TestReading(t *testing.T) {
	for _, x := range []struct {
		x       Image
		c       Clock
		athlete string
		want    api.Span
	}{
		{example(), exampleClock(), "A", spanOf("100010", "100015")},
		{example(), exampleClock(), "B", spanOf("100020", "100025")},
		{image(1, "Q"), clockOf("0", "1/3"), "Q", spanOf("0", "1/3")},
		{image(1, "q", ".", "Q", "Q"), clockOf("1/3", "1/3"), "Q", spanOf("1", "4/3")},
		{image(1, append(repeated(".", 4095), "Z")...), exampleClock(), "Z", spanOf("120475", "120480")},
		{image(1, "Z"), clockOf("0", "863999999"), "Z", spanOf("0", "863999999")},
		{image(1, "Z"), clockOf("863999998", "1"), "Z", spanOf("863999998", "863999999")},
	} {
		got, e := Reading(x.x, x.c, x.athlete)
		check(t, "Reading", got, x.want)
		check(t, "Reading", e, api.OK)
	}
}

func TestErrorsOfReading(t *testing.T) {
	checkOfImage(t, "Reading", func(x Image) (any, api.Errno) { return Reading(x, Clock{}, "") })
	checkOfClock(t, "Reading", func(c Clock) (any, api.Errno) { return Reading(example(), c, "") })
	for _, x := range []struct {
		what    string
		c       Clock
		athlete string
		want    api.Errno
	}{
		{"no athlete", exampleClock(), "", api.ErrName},
		{"a small letter", exampleClock(), "b", api.ErrName},
		{"two letters", exampleClock(), "AB", api.ErrName},
		{"nobody", exampleClock(), "C", api.ErrNone},
		{"nobody, too late", clockOf("863999999", "1"), "C", api.ErrNone},
		{"the end just in time", clockOf("863999996", "1"), "A", api.OK},
		{"the end too late by 1", clockOf("863999997", "1"), "A", api.ErrLarge},
		{"the end just too late", clockOf("863999996", "1000001/1000000"), "A", api.ErrLarge},
		{"the beginning too late", clockOf("863999999", "863999999"), "A", api.ErrLarge},
		{"the beginning with too many digits", clockOf("1/"+nines(), "1/"+nines()[:599]), "A", api.ErrLarge},
		{"the end alone with too many digits", clockOf("0", "1/"+nines()), "A", api.OK},
		{"the end with a numerator too long", clockOf(nines()[:599]+"7/"+nines(), "1/"+nines()), "A", api.ErrLarge},
	} {
		s, e := Reading(example(), x.c, x.athlete)
		check(t, x.what, e, x.want)
		if e != api.OK {
			checkNothing(t, x.what, s)
		}
	}
}

// TestReadingHasNumbers checks that both ends have to be numbers, in the columns of long clocks.
func TestReadingHasNumbers(t *testing.T) {
	results := map[api.Errno]int{}
	for _, c := range longClocks() {
		for _, column := range []int{0, 1, 6, 9, 10} {
			x := image(1, append(repeated(".", column), "A")...)
			low, high := beginning(c, column), beginning(c, column+1)
			want := api.OK
			if !fits(low) || !fits(high) || high.Cmp(numberOf("863999999")) > 0 {
				want = api.ErrLarge
			}
			s, e := Reading(x, c, "A")
			results[e]++
			check(t, "Reading", e, want)
			if e == api.OK {
				check(t, "Reading", s, spanOf(textOf(low), textOf(high)))
			} else {
				checkNothing(t, "Reading", s)
			}
		}
	}
	if results[api.OK] < 10 || results[api.ErrLarge] < 10 {
		t.Errorf("the results are %v", results)
	}
}

func TestOfficial(t *testing.T) {
	for _, x := range []struct {
		s     api.Span
		class string
		want  int
	}{
		{spanOf("100010", "100015"), "hundredths", 100100},
		{spanOf("100010", "100015"), "tenths", 101000},
		{spanOf("100010", "100015"), "exact", 100015},
		{spanOf("1", "100000"), "hundredths", 100000},
		{spanOf("1", "100000"), "tenths", 100000},
		{spanOf("100000", "200001/2"), "hundredths", 100100},
		{spanOf("100000", "200001/2"), "tenths", 101000},
		{spanOf("100000", "200001/2"), "exact", 100001},
		{spanOf("0", "1/"+nines()), "exact", 1},
		{spanOf("0", "1/3"), "hundredths", 100},
		{spanOf("3", "10/3"), "exact", 4},
		{spanOf("5", "5"), "exact", 5},
		{spanOf("0", "863999999"), "exact", 863999999},
		{spanOf("0", "1727999997/2"), "exact", 863999999},
		{spanOf("0", "863999900"), "hundredths", 863999900},
		{spanOf("0", "1727999799/2"), "hundredths", 863999900},
		{spanOf("863999000", "863999000"), "tenths", 863999000},
	} {
		m, e := Official(x.s, x.class)
		check(t, "Official", m, timeOf(x.want))
		check(t, "Official", e, api.OK)
	}
}

// wrongSpans has for some errors spans with it.
func wrongSpans() map[api.Errno]api.Span {
	return map[api.Errno]api.Span{
		api.ErrForm:  spanOf("1", ""),
		api.ErrLarge: spanOf("1", longer()),
		api.ErrOrder: spanOf("2", "1"),
		api.ErrRange: spanOf("0", "0"),
	}
}

// checkOfSpan checks that a function returns the errors of a span, and nothing beside them.
func checkOfSpan(t *testing.T, what string, f func(s api.Span) (any, api.Errno)) {
	t.Helper()
	for want, s := range wrongSpans() {
		got, e := f(s)
		check(t, what+" of a wrong span", e, want)
		checkNothing(t, what, got)
	}
}

func TestErrorsOfSpans(t *testing.T) {
	for _, x := range []struct {
		s    api.Span
		want api.Errno
	}{
		{spanOf("0", "1"), api.OK},
		{spanOf("0", "1/"+nines()), api.OK},
		{spanOf("863999999", "863999999"), api.OK},
		{spanOf("", "1"), api.ErrForm},
		{spanOf("1", "1.5"), api.ErrForm},
		{spanOf("2/2", "1"), api.ErrForm},
		{spanOf(longer(), "1"), api.ErrLarge},
		{spanOf("1", longer()), api.ErrLarge},
		{spanOf("1/2", "1/3"), api.ErrOrder},
		{spanOf("-1", "-2"), api.ErrOrder},
		{spanOf("864000001", "864000000"), api.ErrOrder},
		{spanOf("-1", "1"), api.ErrRange},
		{spanOf("-1/"+nines(), "1"), api.ErrRange},
		{spanOf("-2", "-1"), api.ErrRange},
		{spanOf("0", "0"), api.ErrRange},
		{spanOf("0", "864000000"), api.ErrRange},
		{spanOf("0", "1727999999/2"), api.ErrRange},
		{spanOf("864000000", "864000000"), api.ErrRange},
	} {
		_, e := Official(x.s, "exact")
		check(t, "Official", e, x.want)
		_, e = Separated(x.s, spanOf("1", "2"))
		check(t, "Separated", e, x.want)
		_, e = Separated(spanOf("1", "2"), x.s)
		check(t, "Separated", e, x.want)
		_, e = Ties([]api.Span{spanOf("1", "2"), x.s})
		check(t, "Ties", e, x.want)
		_, e = Agree(x.s, timeOf(1), 0)
		check(t, "Agree", e, x.want)
	}
	climb(t, "a span", spanOf("x", "x"), func(s api.Span) api.Errno {
		_, e := Official(s, "exact")
		return e
	},
		rung[api.Span]{api.ErrForm, func(s *api.Span) { s.Low = longer() }},
		rung[api.Span]{api.ErrLarge, func(s *api.Span) { s.Low = "-1" }},
		rung[api.Span]{api.ErrForm, func(s *api.Span) { s.High = "-" + longer() }},
		rung[api.Span]{api.ErrLarge, func(s *api.Span) { s.High = "-2" }},
		rung[api.Span]{api.ErrOrder, func(s *api.Span) { s.High = "864000000" }},
		rung[api.Span]{api.ErrRange, func(s *api.Span) { s.Low = "1" }},
		rung[api.Span]{api.ErrRange, func(s *api.Span) { s.High = "1" }},
	)
}

func TestErrorsOfOfficial(t *testing.T) {
	checkOfSpan(t, "Official", func(s api.Span) (any, api.Errno) { return Official(s, "") })
	for _, x := range []struct {
		high  api.Rat
		class string
		want  api.Errno
	}{
		{"2", "", api.ErrKind}, {"2", "centimetres", api.ErrKind}, {"2", "Tenths", api.ErrKind}, {"2", "time", api.ErrKind},
		{"863999901", "hundredths", api.ErrLarge}, {"1727999801/2", "hundredths", api.ErrLarge}, {"863999001", "tenths", api.ErrLarge},
		{"863999901", "centimetres", api.ErrKind},
	} {
		m, e := Official(spanOf("1", x.high), x.class)
		check(t, "Official", e, x.want)
		checkNothing(t, "Official", m)
	}
}

func TestSeparated(t *testing.T) {
	for _, x := range []struct {
		a, b api.Span
		want int
	}{
		{spanOf("1", "2"), spanOf("3", "4"), -1},
		{spanOf("1", "2"), spanOf("2", "3"), -1},
		{spanOf("1", "3"), spanOf("2", "4"), 0},
		{spanOf("1", "9"), spanOf("3", "4"), 0},
		{spanOf("1", "4"), spanOf("3", "4"), 0},
		{spanOf("1", "2"), spanOf("1", "4"), 0},
		{spanOf("1", "2"), spanOf("1", "2"), 0},
		{spanOf("1/3", "1/2"), spanOf("1/2", "2/3"), -1},
		{spanOf("1/3", "1/2"), spanOf("4/9", "2/3"), 0},
		{spanOf("9", "10"), spanOf("10", "11"), -1},
		{spanOf("5", "5"), spanOf("5", "6"), -1},
		{spanOf("4", "5"), spanOf("5", "5"), -1},
		{spanOf("5", "5"), spanOf("5", "5"), 0},
		{spanOf("4", "6"), spanOf("5", "5"), 0},
	} {
		n, e := Separated(x.a, x.b)
		check(t, "Separated", n, x.want)
		check(t, "Separated", e, api.OK)
		n, e = Separated(x.b, x.a)
		check(t, "Separated, the other way round", n, -x.want)
		check(t, "Separated, the other way round", e, api.OK)
	}
}

func TestErrorsOfSeparated(t *testing.T) {
	checkOfSpan(t, "Separated", func(s api.Span) (any, api.Errno) { return Separated(s, api.Span{}) })
	checkOfSpan(t, "Separated", func(s api.Span) (any, api.Errno) { return Separated(spanOf("1", "2"), s) })
}

func TestTies(t *testing.T) {
	for _, x := range []struct {
		what string
		l    []api.Span
		want [][2]int
	}{
		{"no readings", nil, nil},
		{"one reading", []api.Span{spanOf("1", "2")}, nil},
		{"the example", []api.Span{spanOf("1", "2"), spanOf("1", "2"), spanOf("2", "4")}, [][2]int{{0, 1}}},
		{"a chain", []api.Span{spanOf("1", "3"), spanOf("2", "4"), spanOf("3", "5"), spanOf("9", "10")}, [][2]int{{0, 1}, {1, 2}}},
		{"a chain from behind", []api.Span{spanOf("9", "10"), spanOf("3", "5"), spanOf("2", "4"), spanOf("1", "3")}, [][2]int{{1, 2}, {2, 3}}},
		{"a reading around all", []api.Span{spanOf("2", "3"), spanOf("0", "9"), spanOf("1", "2"), spanOf("1", "2")}, [][2]int{{0, 1}, {1, 2}, {1, 3}, {2, 3}}},
		{"points", []api.Span{spanOf("5", "5"), spanOf("5", "5"), spanOf("4", "5"), spanOf("5", "6"), spanOf("4", "6")}, [][2]int{{0, 1}, {0, 4}, {1, 4}, {2, 4}, {3, 4}}},
		{"all equal", repeated(spanOf("1/3", "1/2"), 4), [][2]int{{0, 1}, {0, 2}, {0, 3}, {1, 2}, {1, 3}, {2, 3}}},
	} {
		l, e := Ties(x.l)
		check(t, x.what, l, x.want)
		check(t, x.what, e, api.OK)
	}
	l, e := Ties(repeated(spanOf("1", "2"), 256))
	check(t, "256 readings", len(l), 32640)
	check(t, "256 readings", e, api.OK)
}

func TestErrorsOfTies(t *testing.T) {
	checkOfSpan(t, "Ties", func(s api.Span) (any, api.Errno) { return Ties([]api.Span{s, {}}) })
	for _, x := range []struct {
		what string
		l    []api.Span
		want api.Errno
	}{
		{"257 readings", repeated(spanOf("1", "2"), 257), api.ErrMany},
		{"257 wrong readings", make([]api.Span, 257), api.ErrMany},
		{"256 readings, the last one wrong", append(repeated(spanOf("1", "2"), 255), spanOf("2", "1")), api.ErrOrder},
		{"two wrong readings", []api.Span{spanOf("1", "2"), spanOf("0", "0"), spanOf("", "2")}, api.ErrRange},
	} {
		l, e := Ties(x.l)
		check(t, x.what, e, x.want)
		checkNothing(t, x.what, l)
	}
}

// isEarlier reports whether a reading is earlier than another one, as the chapter says it.
func isEarlier(a, b api.Span) bool {
	return a != b && numberOf(a.High).Cmp(numberOf(b.Low)) <= 0
}

func TestRandomTies(t *testing.T) {
	r := rand.New(rand.NewSource(3))
	ends := []api.Rat{"0", "1/" + nines(), "1/3", "1/2", "2/3", "1", "3/2", "9", "10", "11"}
	for range 300 {
		var l []api.Span
		for range r.Intn(8) {
			low := r.Intn(len(ends) - 1)
			high := low + r.Intn(len(ends)-low)
			l = append(l, spanOf(ends[low], ends[max(high, 1)]))
		}
		var want [][2]int
		for i, a := range l {
			for j, b := range l[i+1:] {
				n, e := Separated(a, b)
				check(t, "Separated", e, api.OK)
				switch {
				case isEarlier(a, b):
					check(t, "Separated", n, -1)
				case isEarlier(b, a):
					check(t, "Separated", n, 1)
				default:
					check(t, "Separated", n, 0)
					want = append(want, [2]int{i, i + 1 + j})
				}
			}
		}
		got, e := Ties(l)
		check(t, "Ties", got, want)
		check(t, "Ties", e, api.OK)
	}
}
