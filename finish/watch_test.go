package finish

import (
	"math/rand"
	"slices"
	"testing"

	"stadion/api"
)

func TestWatch(t *testing.T) {
	for _, x := range []struct {
		what string
		l    []int
		want int
	}{
		{"the example", []int{101234, 102000, 101900}, 102000},
		{"three, in any order", []int{105000, 101000, 103400}, 104000},
		{"two", []int{101000, 103400}, 104000},
		{"two, the greater one first", []int{103400, 101000}, 104000},
		{"two equal ones", []int{5000, 5000}, 5000},
		{"one", []int{101001}, 102000},
		{"one of whole tenths", []int{101000}, 101000},
		{"three, two of which are equal when rounded", []int{1, 1000, 5000}, 1000},
		{"three, the lesser two", []int{9000, 1000, 1001}, 2000},
		{"the least time", []int{1}, 1000},
		{"the greatest time", []int{863999000}, 863999000},
	} {
		m, e := Watch(x.l)
		check(t, x.what, m, timeOf(x.want))
		check(t, x.what, e, api.OK)
	}
}

func TestErrorsOfWatch(t *testing.T) {
	for _, x := range []struct {
		what string
		l    []int
		want api.Errno
	}{
		{"no times", nil, api.ErrEmpty},
		{"4 times", []int{1, 2, 3, 4}, api.ErrMany},
		{"4 wrong times", []int{0, 0, 0, 0}, api.ErrMany},
		{"0 at last", []int{1, 2, 0}, api.ErrRange},
		{"0 behind one that is too large", []int{863999999, 0}, api.ErrRange},
		{"too large", []int{863999001}, api.ErrLarge},
		{"the greater one too large", []int{1, 863999999}, api.ErrLarge},
		{"the greatest one too large, the middle one not", []int{863999999, 1, 2}, api.ErrLarge},
		{"the middle one too large", []int{863999001, 863999002, 2}, api.ErrLarge},
	} {
		m, e := Watch(x.l)
		check(t, x.what, e, x.want)
		checkNothing(t, x.what, m)
	}
	checkRange(t, "a time", 1, 863999999, func(n int) (any, api.Errno) {
		m, e := Watch([]int{n})
		return m, ignored(e, api.ErrLarge)
	})
	checkRange(t, "a time behind", 1, 863999999, func(n int) (any, api.Errno) {
		m, e := Watch([]int{5, n})
		return m, ignored(e, api.ErrLarge)
	})
}

func TestMemoryOfWatch(t *testing.T) {
	l := []int{105000, 101000, 103400}
	Watch(l)
	check(t, "the argument", l, []int{105000, 101000, 103400})
}

func TestRandomWatch(t *testing.T) {
	r := rand.New(rand.NewSource(5))
	for range 1000 {
		l := []int{1 + r.Intn(5000), 1 + r.Intn(5000), 1 + r.Intn(5000)}
		m, _ := Watch(l)
		tenths := make([]int, 3)
		for i, n := range l {
			tenths[i] = (n + 999) / 1000 * 1000
		}
		check(t, "the middle one", m, timeOf(max(min(tenths[0], tenths[1]), min(tenths[1], tenths[2]), min(tenths[0], tenths[2]))))
		two, _ := Watch(l[:2])
		check(t, "the greater one", two, timeOf(max(tenths[0], tenths[1])))
		one, _ := Watch(l[:1])
		check(t, "its own", one, timeOf(tenths[0]))
	}
}

func TestAgree(t *testing.T) {
	for _, x := range []struct {
		what      string
		s         api.Span
		time      int
		tolerance int
		want      bool
	}{
		{"behind", spanOf("101500", "101600"), 102000, 400, true},
		{"too far behind", spanOf("101500", "101600"), 102000, 399, false},
		{"ahead", spanOf("101500", "101600"), 101000, 500, true},
		{"too far ahead", spanOf("101500", "101600"), 101000, 499, false},
		{"within", spanOf("101500", "101600"), 101550, 0, true},
		{"at the lower end", spanOf("101500", "101600"), 101500, 0, true},
		{"at the upper end", spanOf("101500", "101600"), 101600, 0, true},
		{"just ahead", spanOf("101500", "101600"), 101499, 0, false},
		{"just behind", spanOf("101500", "101600"), 101601, 0, false},
		{"behind by a part", spanOf("1", "7/3"), 4, 1, false},
		{"behind by a part less", spanOf("1", "10/3"), 4, 1, true},
		{"ahead by a part", spanOf("16/3", "6"), 4, 1, false},
		{"ahead by a part less", spanOf("14/3", "6"), 4, 1, true},
		{"a long span", spanOf("0", "863999999"), 863999999, 0, true},
		{"the greatest tolerance", spanOf("0", "1/"+nines()), 863999999, 863999999, true},
		{"the greatest tolerance, ahead", spanOf("863999999", "863999999"), 1, 863999999, true},
		{"the greatest distance", spanOf("0", "1/2"), 863999999, 863999998, false},
	} {
		is, e := Agree(x.s, timeOf(x.time), x.tolerance)
		check(t, x.what, is, x.want)
		check(t, x.what, e, api.OK)
	}
}

func TestErrorsOfAgree(t *testing.T) {
	checkOfSpan(t, "Agree", func(s api.Span) (any, api.Errno) { return Agree(s, api.Mark{}, -1) })
	s := spanOf("1", "2")
	for _, x := range []struct {
		what string
		m    api.Mark
		want api.Errno
	}{
		{"no mark", api.Mark{}, api.ErrKind},
		{"a kind that is none", api.Mark{Kind: "wind", Value: 1}, api.ErrKind},
		{"a time with a reason", api.Mark{Kind: "time", Value: 1, Reason: "DQ"}, api.ErrForm},
		{"a time of 0", timeOf(0), api.ErrRange},
		{"a time too large", timeOf(864000000), api.ErrRange},
		{"a length", api.Mark{Kind: "length", Value: 1}, api.ErrKind},
		{"a length below 0", api.Mark{Kind: "length", Value: -1}, api.ErrRange},
		{"points", api.Mark{Kind: "points", Value: 1}, api.ErrKind},
		{"none", api.Mark{Kind: "none", Reason: "NM"}, api.ErrKind},
		{"none without a reason", api.Mark{Kind: "none"}, api.ErrForm},
	} {
		for _, tolerance := range []int{1, -1} {
			is, e := Agree(s, x.m, tolerance)
			check(t, x.what, e, x.want)
			checkNothing(t, x.what, is)
		}
	}
	checkRange(t, "a tolerance", 0, 863999999, func(n int) (any, api.Errno) { return Agree(s, timeOf(1), n) })
}

// TestRandomAgree compares with the distance from the span, which is that of three points sorted.
func TestRandomAgree(t *testing.T) {
	r := rand.New(rand.NewSource(6))
	for range 2000 {
		ends := []int{r.Intn(12), 1 + r.Intn(12)}
		slices.Sort(ends)
		time, tolerance := 1+r.Intn(12), r.Intn(4)
		distance := max(ends[0]-time, time-ends[1], 0)
		is, e := Agree(spanOf(integer(ends[0]), integer(ends[1])), timeOf(time), tolerance)
		check(t, "Agree", is, distance <= tolerance)
		check(t, "Agree", e, api.OK)
	}
}
