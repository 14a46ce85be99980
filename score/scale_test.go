package score

import (
	"fmt"
	"maps"
	"math/big"
	"math/rand"
	"slices"
	"testing"

	"stadion/api"
)

func TestCheckScale(t *testing.T) {
	for _, x := range []struct {
		what string
		s    Scale
		want api.Errno
	}{
		{"times", dash(), api.OK},
		{"lengths", jump(), api.OK},
		{"tenths", Scale{"a", "time", "tenths", []Step{{1, 0}}}, api.OK},
		{"exact times", Scale{"a", "time", "exact", []Step{{1, 99999}, {863999999, 0}}}, api.OK},
		{"exact lengths", Scale{"a", "length", "exact", []Step{{0, 0}, {999999, 99999}}}, api.OK},
		{"nothing", Scale{}, api.ErrName},
		{"no kind", Scale{"a", "", "exact", []Step{{1, 1}, {2, 2}}}, api.ErrKind},
		{"points", Scale{"a", "points", "exact", []Step{{1, 1}, {2, 2}}}, api.ErrKind},
		{"the kind none", Scale{"a", "none", "exact", []Step{{0, 0}}}, api.ErrKind},
		{"no class", Scale{"a", "time", "", []Step{{1, 1}}}, api.ErrKind},
		{"another class", Scale{"a", "time", "seconds", []Step{{1, 1}}}, api.ErrKind},
		{"times in centimetres", Scale{"a", "time", "centimetres", []Step{{1, 1}}}, api.ErrKind},
		{"lengths in hundredths", Scale{"a", "length", "hundredths", []Step{{1, 1}}}, api.ErrKind},
		{"lengths in tenths", Scale{"a", "length", "tenths", []Step{{1, 1}}}, api.ErrKind},
		{"no steps", Scale{"a", "time", "exact", nil}, api.ErrEmpty},
		{"a time twice", Scale{"a", "time", "exact", []Step{{5, 9}, {5, 8}}}, api.ErrOrder},
		{"times that fall", Scale{"a", "time", "exact", []Step{{5, 9}, {4, 8}}}, api.ErrOrder},
		{"points of times that stay", Scale{"a", "time", "exact", []Step{{5, 9}, {6, 9}}}, api.ErrOrder},
		{"points of times that rise", Scale{"a", "time", "exact", []Step{{5, 9}, {6, 10}}}, api.ErrOrder},
		{"a length twice", Scale{"a", "length", "exact", []Step{{5, 8}, {5, 9}}}, api.ErrOrder},
		{"lengths that fall", Scale{"a", "length", "exact", []Step{{5, 8}, {4, 9}}}, api.ErrOrder},
		{"points of lengths that stay", Scale{"a", "length", "exact", []Step{{5, 9}, {6, 9}}}, api.ErrOrder},
		{"points of lengths that fall", Scale{"a", "length", "exact", []Step{{5, 9}, {6, 8}}}, api.ErrOrder},
		{"a range behind a wrong order", Scale{"a", "time", "exact", []Step{{5, 9}, {5, 9}, {0, 0}}}, api.ErrOrder},
		{"a wrong order behind a range", Scale{"a", "time", "exact", []Step{{5, 9}, {0, 9}, {0, 9}}}, api.ErrRange},
	} {
		check(t, x.what, CheckScale(x.s), x.want)
	}
	many := func(n int) Scale {
		return Scale{"a", "length", "exact", repeated(n, func(i int) Step { return Step{i, i} })}
	}
	check(t, "64 steps", CheckScale(many(64)), api.OK)
	check(t, "65 steps", CheckScale(many(65)), api.ErrMany)
	wrong := many(65)
	wrong.Steps[0].Value = -1
	check(t, "65 steps with a wrong one", CheckScale(wrong), api.ErrMany)
}

func TestRangesOfScales(t *testing.T) {
	for _, x := range []struct {
		kind            string
		least, greatest int
	}{{"time", 1, 863999999}, {"length", 0, 999999}} {
		checkRange(t, "a value of the kind "+x.kind, x.least, x.greatest, func(n int) (any, api.Errno) {
			return nil, CheckScale(Scale{"a", x.kind, "exact", []Step{{n, 1}}})
		})
		checkRange(t, "points of the kind "+x.kind, 0, 99999, func(n int) (any, api.Errno) {
			return nil, CheckScale(Scale{"a", x.kind, "exact", []Step{{1, n}}})
		})
	}
	checkRange(t, "points that are needed", 0, 99999, func(n int) (any, api.Errno) {
		m, e := Need(dash(), n)
		return m, ignored(e, api.ErrNone)
	})
}

func TestErrorsOfScales(t *testing.T) {
	climb(t, "CheckScale", Scale{"1", "none", "hundredths", nil}, CheckScale,
		rung[Scale]{api.ErrName, func(s *Scale) { s.Event = "a" }},
		rung[Scale]{api.ErrKind, func(s *Scale) { s.Kind = "length" }},
		rung[Scale]{api.ErrKind, func(s *Scale) { s.Class = "centimetres" }},
		rung[Scale]{api.ErrEmpty, func(s *Scale) { s.Steps = []Step{{5, 7}, {-1, -1}} }},
		rung[Scale]{api.ErrRange, func(s *Scale) { s.Steps[1].Value = 5 }},
		rung[Scale]{api.ErrRange, func(s *Scale) { s.Steps[1].Points = 7 }},
		rung[Scale]{api.ErrOrder, func(s *Scale) { s.Steps[1].Value = 6 }},
		rung[Scale]{api.ErrOrder, func(s *Scale) { s.Steps[1].Points = 8 }},
	)
	type marked struct {
		s Scale
		m api.Mark
	}
	climb(t, "Points", marked{Scale{}, api.Mark{Kind: "length", Reason: "DNS", Value: -1}},
		func(x marked) api.Errno {
			n, e := Points(x.s, x.m)
			if e != api.OK {
				checkNothing(t, "Points", n)
			}
			return e
		},
		rung[marked]{api.ErrName, func(x *marked) { x.s = dash() }},
		rung[marked]{api.ErrForm, func(x *marked) { x.m.Reason = "" }},
		rung[marked]{api.ErrRange, func(x *marked) { x.m.Value = 100000 }},
		rung[marked]{api.ErrKind, func(x *marked) { x.m.Kind = "time" }},
	)
	for what, m := range map[string]api.Mark{"another kind": leap(5), "points": pointed(5), "a kind that is none": {Kind: "x"}} {
		n, e := Points(dash(), m)
		checkBoth(t, what, n, e, nil, api.ErrKind)
	}
	type needed struct {
		s Scale
		n int
	}
	climb(t, "Need", needed{Scale{}, -1},
		func(x needed) api.Errno {
			m, e := Need(x.s, x.n)
			if e != api.OK {
				checkNothing(t, "Need", m)
			}
			return e
		},
		rung[needed]{api.ErrName, func(x *needed) { x.s = dash() }},
		rung[needed]{api.ErrRange, func(x *needed) { x.n = 1001 }},
		rung[needed]{api.ErrNone, func(x *needed) { x.n = 1000 }},
	)
}

func TestPoints(t *testing.T) {
	last := func(class string) Scale { return Scale{"a", "time", class, []Step{{1, 9}, {863999999, 5}}} }
	for _, x := range []struct {
		what string
		s    Scale
		m    api.Mark
		want int
	}{
		{"the best step", dash(), run(100000), 1000},
		{"just worse than it", dash(), run(100001), 998},
		{"a step between", dash(), run(110000), 800},
		{"rounded to a step", dash(), run(109901), 800},
		{"the last step", dash(), run(130000), 0},
		{"nearly the last step", dash(), run(129951), 0},
		{"the least time", dash(), run(1), 1000},
		{"the greatest time", dash(), run(863999999), 0},
		{"the best length", jump(), leap(8000), 1000},
		{"just below it", jump(), leap(7999), 997},
		{"the greatest length", jump(), leap(999999), 1000},
		{"the worst step", jump(), leap(6000), 500},
		{"rounded to it", jump(), leap(6009), 500},
		{"just worse than all steps", jump(), leap(5999), 0},
		{"the length 0", jump(), leap(0), 0},
		{"no start", dash(), none("DNS"), 0},
		{"no mark", jump(), none("NM"), 0},
		{"no mark, with points for all lengths", Scale{"a", "length", "exact", []Step{{0, 7}}}, none("DQ"), 0},
		{"the length 0 with points for all lengths", Scale{"a", "length", "exact", []Step{{0, 7}}}, leap(0), 7},
		{"a single time", Scale{"a", "time", "tenths", []Step{{5000, 7}}}, run(4001), 7},
		{"worse than a single time", Scale{"a", "time", "tenths", []Step{{5000, 7}}}, run(5001), 0},
		{"a step between two tenths", Scale{"a", "time", "tenths", []Step{{5500, 7}}}, run(5001), 0},
		{"it cannot be rounded by hundredths", last("hundredths"), run(863999901), 0},
		{"just before", last("hundredths"), run(863999900), 5},
		{"it cannot be rounded by tenths", last("tenths"), run(863999001), 0},
		{"just before", last("tenths"), run(863999000), 5},
		{"the last exact time", last("exact"), run(863999999), 5},
		{"the greatest numbers", Scale{"a", "time", "exact", []Step{{1, 99999}, {863999999, 0}}}, run(2), 99998},
		{"the greatest numbers at the end", Scale{"a", "time", "exact", []Step{{1, 99999}, {863999999, 0}}}, run(863991359), 0},
		{"just before", Scale{"a", "time", "exact", []Step{{1, 99999}, {863999999, 0}}}, run(863991358), 1},
	} {
		n, e := Points(x.s, x.m)
		checkBoth(t, x.what, n, e, x.want, api.OK)
	}
}

func TestNeed(t *testing.T) {
	times := func(class string, l ...Step) Scale { return Scale{"a", "time", class, l} }
	lengths := func(class string, l ...Step) Scale { return Scale{"a", "length", class, l} }
	for _, x := range []struct {
		what   string
		s      Scale
		points int
		want   api.Mark
		e      api.Errno
	}{
		{"all points", dash(), 1000, run(100000), api.OK},
		{"a step", dash(), 800, run(110000), api.OK},
		{"one point", dash(), 1, run(129900), api.OK},
		{"no points of hundredths", dash(), 0, run(863999900), api.OK},
		{"no points of tenths", times("tenths", Step{1, 5}), 0, run(863999000), api.OK},
		{"no points of exact times", times("exact", Step{1, 5}), 0, run(863999999), api.OK},
		{"no points of lengths", jump(), 0, leap(0), api.OK},
		{"one point of lengths", jump(), 1, leap(6000), api.OK},
		{"all points of lengths", jump(), 1000, leap(8000), api.OK},
		{"too many of lengths", jump(), 1001, api.Mark{}, api.ErrNone},
		{"a step that is no multiple", times("hundredths", Step{150, 9}), 9, run(100), api.OK},
		{"a step below all multiples", times("hundredths", Step{99, 9}), 9, api.Mark{}, api.ErrNone},
		{"the first step below all multiples", times("hundredths", Step{50, 900}, Step{150, 100}), 501, api.Mark{}, api.ErrNone},
		{"the first step below all multiples", times("hundredths", Step{50, 900}, Step{150, 100}), 500, run(100), api.OK},
		{"the first step of exact times", times("exact", Step{1, 900}), 900, run(1), api.OK},
		{"a step above all multiples", lengths("centimetres", Step{999991, 9}), 9, api.Mark{}, api.ErrNone},
		{"the last multiple", lengths("centimetres", Step{999981, 9}), 9, leap(999990), api.OK},
		{"the last length", lengths("exact", Step{999999, 9}), 9, leap(999999), api.OK},
		{"points for all lengths", lengths("exact", Step{0, 9}), 9, leap(0), api.OK},
		{"points for all times", times("exact", Step{863999999, 9}), 9, run(863999999), api.OK},
		{"the last tenths", times("tenths", Step{863999999, 9}), 9, run(863999000), api.OK},
	} {
		m, e := Need(x.s, x.points)
		checkBoth(t, x.what, m, e, x.want, x.e)
	}
}

// unitOf returns the unit of a class.
func unitOf(class string) int {
	return map[string]int{"hundredths": 100, "tenths": 1000, "centimetres": 10, "exact": 1}[class]
}

// pointsByLine returns the points of a mark as the chapter defines them.
func pointsByLine(s Scale, m api.Mark) int {
	if m.Kind == "none" {
		return 0
	}
	unit, steps, value := unitOf(s.Class), slices.Clone(s.Steps), m.Value
	if s.Kind == "length" {
		value = value / unit * unit
		slices.Reverse(steps)
		for i := range steps { // from here on less is better
			steps[i].Value = -steps[i].Value
		}
		value = -value
	} else {
		for value%unit != 0 {
			value++
		}
		if value > 863999999 {
			return 0
		}
	}
	if value <= steps[0].Value {
		return steps[0].Points
	}
	for i := 1; i < len(steps); i++ {
		a, b := steps[i-1], steps[i]
		if value > b.Value {
			continue
		}
		x := big.NewRat(int64(value-a.Value), int64(b.Value-a.Value))
		x.Mul(x, big.NewRat(int64(b.Points-a.Points), 1))
		x.Add(x, big.NewRat(int64(a.Points), 1))
		return int(new(big.Int).Div(x.Num(), x.Denom()).Int64())
	}
	return 0
}

// randomScale returns a scale with values up to a bound.
func randomScale(r *rand.Rand, bound int) Scale {
	s := Scale{Event: "a", Kind: "time", Class: []string{"hundredths", "tenths", "exact"}[r.Intn(3)]}
	if r.Intn(2) == 0 {
		s.Kind, s.Class = "length", []string{"centimetres", "exact"}[r.Intn(2)]
	}
	values, points := map[int]bool{}, map[int]bool{}
	top := []int{10, 100, 99999}[r.Intn(3)]
	for range 1 + r.Intn(6) {
		values[1+r.Intn(bound)] = true
		points[r.Intn(top+1)] = true
	}
	rising := descending(slices.Collect(maps.Keys(points)))
	if s.Kind == "length" {
		slices.Reverse(rising)
	}
	falling := descending(slices.Collect(maps.Keys(values)))
	for i := range min(len(rising), len(falling)) {
		s.Steps = append(s.Steps, Step{falling[len(falling)-1-i], rising[i]})
	}
	return s
}

func TestRandomPoints(t *testing.T) {
	r := rand.New(rand.NewSource(1))
	for range 20000 {
		bound := []int{30, 3000, 999999}[r.Intn(3)]
		s := randomScale(r, bound)
		check(t, fmt.Sprint("the scale ", s), CheckScale(s), api.OK)
		m := api.Mark{Kind: s.Kind, Value: 1 + r.Intn(min(bound+bound/5, 999999))}
		if r.Intn(3) == 0 {
			m.Value = s.Steps[r.Intn(len(s.Steps))].Value
		}
		n, e := Points(s, m)
		checkBoth(t, fmt.Sprint("the points of ", m, " by ", s), n, e, pointsByLine(s, m), api.OK)
	}
}

// TestRandomNeeds goes through all rounded marks from the best one on.
func TestRandomNeeds(t *testing.T) {
	r := rand.New(rand.NewSource(2))
	found := map[api.Errno]int{}
	for range 3000 {
		s := randomScale(r, []int{30, 3000}[r.Intn(2)])
		unit := unitOf(s.Class)
		top := s.Steps[0].Points
		if s.Kind == "length" {
			top = s.Steps[len(s.Steps)-1].Points
		}
		points := min(1+r.Intn(top+2), 99999)
		want, e := api.Mark{}, api.ErrNone
		for value := 0; value <= 4000; value += unit {
			m := api.Mark{Kind: s.Kind, Value: value}
			if value == 0 && s.Kind == "time" || pointsByLine(s, m) < points {
				continue
			}
			// the last one of the times, the first one of the lengths
			if s.Kind == "time" || e != api.OK {
				want, e = m, api.OK
			}
		}
		m, got := Need(s, points)
		checkBoth(t, fmt.Sprint("Need of ", points, " by ", s), m, got, want, e)
		found[e]++
	}
	if found[api.OK] < 500 || found[api.ErrNone] < 100 {
		t.Errorf("the results are %v", found)
	}
}
