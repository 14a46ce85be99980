package finish

import (
	"math/big"
	"math/rand"
	"strings"
	"testing"

	"stadion/api"
)

func TestCheckClock(t *testing.T) {
	for _, x := range []struct {
		what string
		c    Clock
		want api.Errno
	}{
		{"the example", exampleClock(), api.OK},
		{"from 0 on", clockOf("0", "1"), api.OK},
		{"fractions", clockOf("1/2", "1/3"), api.OK},
		{"the greatest numbers", clockOf("863999999", "863999999"), api.OK},
		{"a short step", clockOf("0", "1/"+nines()), api.OK},
		{"nothing", Clock{}, api.ErrForm},
		{"no start", clockOf("", "1"), api.ErrForm},
		{"no step", clockOf("1", ""), api.ErrForm},
		{"a start that is not in lowest terms", clockOf("2/4", "1"), api.ErrForm},
		{"a step that is not in lowest terms", clockOf("1", "2/4"), api.ErrForm},
		{"a start with too many digits", clockOf(longer(), "1"), api.ErrLarge},
		{"a step with too many digits", clockOf("1", "1/"+longer()), api.ErrLarge},
		{"a long start", clockOf(nines(), "1"), api.ErrRange},
		{"a long step", clockOf("1", nines()), api.ErrRange},
		{"a start below 0", clockOf("-1", "1"), api.ErrRange},
		{"a start just below 0", clockOf("-1/"+nines(), "1"), api.ErrRange},
		{"a start too late", clockOf("864000000", "1"), api.ErrRange},
		{"a start just too late", clockOf("1727999999/2", "1"), api.ErrRange},
		{"the step 0", clockOf("1", "0"), api.ErrRange},
		{"a step below 0", clockOf("1", "-1"), api.ErrRange},
		{"a step too long", clockOf("1", "864000000"), api.ErrRange},
		{"a step just too long", clockOf("1", "1727999999/2"), api.ErrRange},
	} {
		check(t, x.what, CheckClock(x.c), x.want)
	}
	climb(t, "a clock", clockOf("x", "x"), CheckClock,
		rung[Clock]{api.ErrForm, func(c *Clock) { c.Start = longer() }},
		rung[Clock]{api.ErrLarge, func(c *Clock) { c.Start = "-1" }},
		rung[Clock]{api.ErrRange, func(c *Clock) { c.Start = "0" }},
		rung[Clock]{api.ErrForm, func(c *Clock) { c.Step = longer() }},
		rung[Clock]{api.ErrLarge, func(c *Clock) { c.Step = "0" }},
		rung[Clock]{api.ErrRange, func(c *Clock) { c.Step = "1" }},
	)
}

// checkOfClock checks that a function returns the errors of a clock, and nothing beside them.
func checkOfClock(t *testing.T, what string, f func(c Clock) (any, api.Errno)) {
	t.Helper()
	for want, c := range map[api.Errno]Clock{
		api.ErrForm:  clockOf("1", "1/1"),
		api.ErrLarge: clockOf(longer(), "1"),
		api.ErrRange: clockOf("1", "0"),
	} {
		got, e := f(c)
		check(t, what+" of a wrong clock", e, want)
		checkNothing(t, what, got)
	}
}

func TestCalibrate(t *testing.T) {
	for _, x := range []struct {
		what      string
		l         []Pulse
		tolerance int
		want      Clock
	}{
		{"from the column 0 on", []Pulse{{0, 1}, {3, 2}}, 0, clockOf("1", "1/3")},
		{"from a later column on", []Pulse{{2, 100010}, {12, 100060}}, 0, exampleClock()},
		{"from the time 0 on", []Pulse{{0, 0}, {4096, 863999999}}, 0, clockOf("0", "863999999/4096")},
		{"down to the time 0", []Pulse{{9, 90}, {10, 100}}, 0, clockOf("0", "10")},
		{"a fraction as start", []Pulse{{1, 10}, {4, 11}}, 0, clockOf("29/3", "1/3")},
		{"lowest terms", []Pulse{{2, 10}, {6, 16}}, 0, clockOf("7", "3/2")},
		{"the last columns", []Pulse{{4095, 863999998}, {4096, 863999999}}, 0, clockOf("863995903", "1")},
		{"just right in between", []Pulse{{0, 10}, {1, 15}, {2, 20}, {4, 30}}, 0, clockOf("10", "5")},
		{"too late by 1", []Pulse{{2, 100010}, {4, 100021}, {12, 100060}}, 1, exampleClock()},
		{"too early by 1", []Pulse{{2, 100010}, {4, 100019}, {12, 100060}}, 1, exampleClock()},
		{"away by a part", []Pulse{{0, 1}, {1, 2}, {3, 4}, {4, 6}}, 1, clockOf("1", "5/4")},
		{"the greatest tolerance", []Pulse{{0, 0}, {1, 863999998}, {4096, 863999999}}, 863999999, clockOf("0", "863999999/4096")},
	} {
		c, e := Calibrate(x.l, x.tolerance)
		check(t, x.what, c, x.want)
		check(t, x.what, e, api.OK)
	}
}

// manyPulses returns pulses of each column.
func manyPulses(n int) []Pulse {
	var l []Pulse
	for i := range n {
		l = append(l, Pulse{i, 7 + 2*i})
	}
	return l
}

func TestErrorsOfCalibrate(t *testing.T) {
	for _, x := range []struct {
		what      string
		l         []Pulse
		tolerance int
		want      api.Errno
	}{
		{"no pulses", nil, 0, api.ErrEmpty},
		{"256 pulses", manyPulses(256), 0, api.OK},
		{"257 pulses", manyPulses(257), 0, api.ErrMany},
		{"257 wrong pulses", make([]Pulse, 257), 0, api.ErrMany},
		{"a column twice", []Pulse{{1, 1}, {1, 2}}, 0, api.ErrOrder},
		{"a column before", []Pulse{{1, 1}, {2, 2}, {1, 3}}, 0, api.ErrOrder},
		{"a time twice", []Pulse{{1, 1}, {2, 1}}, 0, api.ErrOrder},
		{"a time before", []Pulse{{1, 1}, {2, 3}, {3, 2}}, 0, api.ErrOrder},
		{"a wrong order, then a wrong column", []Pulse{{1, 1}, {1, 1}, {-1, 1}}, 0, api.ErrOrder},
		{"a wrong column, then a wrong order", []Pulse{{1, 1}, {4097, 1}, {1, 1}}, 0, api.ErrRange},
		{"a wrong time and a wrong order", []Pulse{{1, 1}, {1, -1}}, 0, api.ErrRange},
		{"one pulse", []Pulse{{1, 1}}, 0, api.ErrSingular},
		{"one pulse at 0", []Pulse{{0, 0}}, 863999999, api.ErrSingular},
		{"a start below 0", []Pulse{{9, 10}, {10, 20}}, 0, api.ErrRange},
		{"a start just below 0", []Pulse{{1000, 999}, {2000, 2000}}, 0, api.ErrRange},
		{"a start below 0, and away", []Pulse{{9, 10}, {10, 11}, {11, 30}}, 0, api.ErrRange},
		{"too late by 1", []Pulse{{0, 10}, {1, 16}, {2, 20}}, 0, api.ErrConflict},
		{"too early by 1", []Pulse{{0, 10}, {1, 14}, {2, 20}}, 0, api.ErrConflict},
		{"too late by 2", []Pulse{{0, 10}, {1, 17}, {2, 20}}, 1, api.ErrConflict},
		{"away by a bit more", []Pulse{{0, 1}, {3, 3}, {4, 6}}, 1, api.ErrConflict},
		{"the one behind is away", []Pulse{{0, 10}, {1, 15}, {2, 21}, {3, 25}}, 0, api.ErrConflict},
	} {
		c, e := Calibrate(x.l, x.tolerance)
		check(t, x.what, e, x.want)
		if e != api.OK {
			checkNothing(t, x.what, c)
		}
	}
	checkRange(t, "a column", 0, 4096, func(n int) (any, api.Errno) {
		c, e := Calibrate([]Pulse{{n, 5}}, 0)
		return c, ignored(e, api.ErrSingular)
	})
	checkRange(t, "a time", 0, 863999999, func(n int) (any, api.Errno) {
		c, e := Calibrate([]Pulse{{5, n}}, 0)
		return c, ignored(e, api.ErrSingular)
	})
	checkRange(t, "a tolerance", 0, 863999999, func(n int) (any, api.Errno) {
		return Calibrate([]Pulse{{0, 1}, {1, 2}}, n)
	})
	climb(t, "pulses", []Pulse{{0, 1}, {5, 864000000}, {1, 9}}, func(l []Pulse) api.Errno {
		_, e := Calibrate(l, 2)
		return e
	},
		rung[[]Pulse]{api.ErrRange, func(l *[]Pulse) { (*l)[1].Time = 1 }},
		rung[[]Pulse]{api.ErrOrder, func(l *[]Pulse) { (*l)[1].Time = 9 }},
		rung[[]Pulse]{api.ErrOrder, func(l *[]Pulse) { (*l)[2].Column = 9 }},
		rung[[]Pulse]{api.ErrOrder, func(l *[]Pulse) { (*l)[2].Time = 10 }},
		rung[[]Pulse]{api.ErrConflict, func(l *[]Pulse) { *l = manyPulses(3) }},
	)
	_, e := Calibrate([]Pulse{{1, 1}}, -1)
	check(t, "the tolerance ahead of a single pulse", e, api.ErrRange)
	_, e = Calibrate([]Pulse{{1, 1}, {0, 1}}, -1)
	check(t, "the pulses ahead of the tolerance", e, api.ErrOrder)
}

// ignored returns OK for one error.
func ignored(e, one api.Errno) api.Errno {
	if e == one {
		return api.OK
	}
	return e
}

func TestBegins(t *testing.T) {
	for _, x := range []struct {
		c      Clock
		column int
		want   api.Rat
	}{
		{exampleClock(), 0, "100000"},
		{exampleClock(), 1, "100005"},
		{exampleClock(), 4096, "120480"},
		{clockOf("1", "1/3"), 4, "7/3"},
		{clockOf("1/3", "1/6"), 1, "1/2"},
		{clockOf("1/3", "1/6"), 4, "1"},
		{clockOf("0", "1/4096"), 4096, "1"},
		{clockOf("863999999", "863999999"), 4096, "3539807995903"},
	} {
		at, e := Begins(x.c, x.column)
		check(t, "Begins", at, x.want)
		check(t, "Begins", e, api.OK)
	}
}

func TestErrorsOfBegins(t *testing.T) {
	checkOfClock(t, "Begins", func(c Clock) (any, api.Errno) { return Begins(c, -1) })
	checkRange(t, "Begins", 0, 4096, func(n int) (any, api.Errno) { return Begins(exampleClock(), n) })
}

// longClocks returns clocks with numbers of 600 digits, whose columns begin at numbers with as many, or with more.
func longClocks() []Clock {
	ones := api.Rat(strings.Repeat("1", 600))
	odd := api.Rat("1" + strings.Repeat("0", 598) + "7")
	threes := api.Rat("1" + strings.Repeat("3", 599))
	half := api.Rat("5" + strings.Repeat("0", 598) + "1") // of the greatest denominator
	power := api.Rat(new(big.Int).Lsh(big.NewInt(1), 1990).String())
	return []Clock{
		clockOf("0", "1/"+ones),
		clockOf("0", nines()[:599]+"8/"+nines()),
		clockOf("1/"+ones, "1/"+odd),
		clockOf("7", threes+"/"+odd),
		clockOf("1/3", "1/"+half),
		clockOf(odd+"/"+power, "3/"+power),
		clockOf("1/"+power, "863999999"),
		clockOf("863999990", "1/"+nines()),
		clockOf("1/"+odd, threes+"/"+odd),
		clockOf("20/"+nines(), nines()[:599]+"7/"+nines()),
	}
}

// numberOf returns the fraction of a number.
func numberOf(x api.Rat) *big.Rat {
	r, ok := new(big.Rat).SetString(string(x))
	if !ok {
		panic("no number: " + string(x))
	}
	return r
}

// textOf returns the text of a fraction, also of one that has too many digits.
func textOf(x *big.Rat) api.Rat { return api.Rat(x.RatString()) }

// fits reports whether a fraction is a number.
func fits(x *big.Rat) bool {
	return len(new(big.Int).Abs(x.Num()).String()) <= 600 && len(x.Denom().String()) <= 600
}

// beginning returns when a column begins, as the chapter says it.
func beginning(c Clock, column int) *big.Rat {
	steps := new(big.Rat).Mul(numberOf(c.Step), big.NewRat(int64(column), 1))
	return steps.Add(steps, numberOf(c.Start))
}

// ceiling returns the least integer that is not below a fraction.
func ceiling(x *big.Rat) int {
	n := new(big.Int).Div(new(big.Int).Neg(x.Num()), x.Denom())
	return -int(n.Int64())
}

// checkBegins checks one beginning, and reports whether it is a number.
func checkBegins(t *testing.T, c Clock, column int) bool {
	t.Helper()
	want := beginning(c, column)
	at, e := Begins(c, column)
	if !fits(want) {
		check(t, "a beginning with too many digits", e, api.ErrLarge)
		checkNothing(t, "Begins", at)
		return false
	}
	check(t, "Begins", e, api.OK)
	check(t, "Begins", at, textOf(want))
	return true
}

func TestBeginsWithManyDigits(t *testing.T) {
	results := map[bool]int{}
	for _, c := range longClocks() {
		check(t, "a long clock", CheckClock(c), api.OK)
		for _, column := range []int{0, 1, 2, 7, 10, 11, 4096} {
			results[checkBegins(t, c, column)]++
			check(t, "rounded", roundedBeginning(c, column), ceiling(beginning(c, column)))
		}
	}
	if results[true] < 20 || results[false] < 20 {
		t.Errorf("the results are %v", results)
	}
}

// TestBeginsWithManyDigitsOnTheWay has ten steps that are no number, while the start and ten steps are one.
func TestBeginsWithManyDigitsOnTheWay(t *testing.T) {
	step := nines()[:599] + "7/" + nines() // less than 1 by 2 parts
	_, e := Begins(clockOf("0", step), 10)
	check(t, "ten steps", e, api.ErrLarge)
	at, e := Begins(clockOf("20/"+nines(), step), 10)
	check(t, "the start and ten steps", at, "10")
	check(t, "the start and ten steps", e, api.OK)
}

// randomClock returns a clock of fractions, some of them long ones.
func randomClock(r *rand.Rand) Clock {
	number := func(least int) api.Rat {
		den := 1 + r.Intn(12)
		return textOf(big.NewRat(int64(least+r.Intn(40)), int64(den)))
	}
	return clockOf(number(0), number(1))
}

func TestRandomBegins(t *testing.T) {
	r := rand.New(rand.NewSource(1))
	for range 2000 {
		c, column := randomClock(r), r.Intn(40)
		checkBegins(t, c, column)
		check(t, "rounded", roundedBeginning(c, column), ceiling(beginning(c, column)))
	}
}

// TestRandomCalibrate has pulses that are away from a clock by a few ten-thousandths.
func TestRandomCalibrate(t *testing.T) {
	r := rand.New(rand.NewSource(2))
	results := map[api.Errno]int{}
	for range 3000 {
		var l []Pulse
		p := Pulse{r.Intn(4), r.Intn(20)}
		for range 1 + r.Intn(5) {
			l = append(l, p)
			columns := 1 + r.Intn(3)
			p = Pulse{p.Column + columns, p.Time + 5*columns + r.Intn(3)}
		}
		tolerance := r.Intn(3)
		want, e := calibrated(l, tolerance)
		results[e]++
		c, got := Calibrate(l, tolerance)
		check(t, "Calibrate", c, want)
		check(t, "Calibrate", got, e)
	}
	for _, e := range []api.Errno{api.OK, api.ErrSingular, api.ErrRange, api.ErrConflict} {
		if results[e] < 100 {
			t.Errorf("the results are %v", results)
		}
	}
}

// calibrated returns the clock of pulses that ascend, as the chapter says it.
func calibrated(l []Pulse, tolerance int) (Clock, api.Errno) {
	if len(l) == 1 {
		return Clock{}, api.ErrSingular
	}
	from, to := l[0], l[len(l)-1]
	step := big.NewRat(int64(to.Time-from.Time), int64(to.Column-from.Column))
	start := new(big.Rat).Mul(step, big.NewRat(int64(from.Column), 1))
	start.Sub(big.NewRat(int64(from.Time), 1), start)
	if start.Sign() < 0 {
		return Clock{}, api.ErrRange
	}
	c := clockOf(textOf(start), textOf(step))
	for _, p := range l {
		away := new(big.Rat).Sub(beginning(c, p.Column), big.NewRat(int64(p.Time), 1))
		if away.Abs(away).Cmp(big.NewRat(int64(tolerance), 1)) > 0 {
			return Clock{}, api.ErrConflict
		}
	}
	return c, api.OK
}
