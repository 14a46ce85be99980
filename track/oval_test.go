package track

import (
	"math/big"
	"math/rand"
	"testing"

	"stadion/api"
)

func TestConstants(t *testing.T) {
	check(t, "the constants", []int{Substitutes, MaxLegs, MaxBends}, []int{2, 8, 16})
}

func TestCheckOval(t *testing.T) {
	for _, x := range []struct {
		what   string
		change func(o *Oval)
		want   api.Errno
	}{
		{"the example", func(o *Oval) {}, api.OK},
		{"nothing", func(o *Oval) { *o = Oval{} }, api.ErrRange},
		{"First as Width", func(o *Oval) { o.First = 1220 }, api.OK},
		{"First above Width", func(o *Oval) { o.First = 1221 }, api.ErrRange},
		{"Other as Width", func(o *Oval) { o.Other = 1220 }, api.OK},
		{"Other above Width", func(o *Oval) { o.Other = 1221 }, api.ErrRange},
		{"a Width below First", func(o *Oval) { o.Width = 299 }, api.ErrRange},
		{"a Width below Other", func(o *Oval) { o.Width, o.First = 199, 0 }, api.ErrRange},
		{"the least numbers", func(o *Oval) { *o = Oval{1, 1, 1, 0, 0, 1} }, api.OK},
		{"the greatest numbers", func(o *Oval) { *o = Oval{999999, 999999, 10000, 10000, 10000, 10} }, api.OK},
	} {
		o := oval()
		x.change(&o)
		check(t, x.what, CheckOval(o), x.want)
	}
	for _, x := range []struct {
		what            string
		least, greatest int
		want            api.Errno
		field           func(o *Oval) *int
	}{
		{"Straight", 1, 999999, api.ErrRange, func(o *Oval) *int { return &o.Straight }},
		{"Radius", 1, 999999, api.ErrRange, func(o *Oval) *int { return &o.Radius }},
		{"Width", 300, 10000, api.ErrRange, func(o *Oval) *int { return &o.Width }},
		{"First", 0, 1220, api.ErrRange, func(o *Oval) *int { return &o.First }},
		{"Other", 0, 1220, api.ErrRange, func(o *Oval) *int { return &o.Other }},
		{"Lanes", 1, 10, api.ErrLane, func(o *Oval) *int { return &o.Lanes }},
	} {
		checkRange(t, x.what, x.least, x.greatest, x.want, func(n int) (any, api.Errno) {
			o := oval()
			*x.field(&o) = n
			return nil, CheckOval(o)
		})
	}
	climb(t, "an oval", Oval{0, 0, 0, 1, 1, 0}, CheckOval,
		rung[Oval]{api.ErrRange, func(o *Oval) { o.Straight = 1 }},
		rung[Oval]{api.ErrRange, func(o *Oval) { o.Radius = 1 }},
		rung[Oval]{api.ErrRange, func(o *Oval) { o.First = 0 }},
		rung[Oval]{api.ErrRange, func(o *Oval) { o.Other = 0 }},
		rung[Oval]{api.ErrRange, func(o *Oval) { o.Width = 1 }},
		rung[Oval]{api.ErrLane, func(o *Oval) { o.Lanes = 1 }},
	)
}

// checkOfOval checks that a function returns the errors of an oval ahead of those of its other arguments, and nothing beside them.
func checkOfOval(t *testing.T, what string, f func(o Oval) (any, api.Errno)) {
	t.Helper()
	range0, lane0 := oval(), oval()
	range0.Other, lane0.Lanes = -1, 11
	for want, o := range map[api.Errno]Oval{api.ErrRange: range0, api.ErrLane: lane0} {
		got, e := f(o)
		check(t, what+" of a wrong oval", e, want)
		checkNothing(t, what, got)
	}
}

func TestRadius(t *testing.T) {
	for lane, want := range []int{1: 36800, 2: 37920, 3: 39140, 4: 40360, 8: 45240} {
		if want == 0 {
			continue
		}
		r, e := Radius(oval(), lane)
		check(t, "the running radius", r, want)
		check(t, "Radius", e, api.OK)
	}
	r, e := Radius(Oval{999999, 999999, 10000, 10000, 10000, 10}, 10)
	check(t, "the greatest one", r, 1099999)
	check(t, "Radius", e, api.OK)
	r, _ = Radius(Oval{1, 1, 1, 0, 0, 1}, 1)
	check(t, "the least one", r, 1)
	o := oval()
	o.First, o.Other = 1220, 0
	first, _ := Radius(o, 1)
	second, _ := Radius(o, 2)
	check(t, "of two lanes, of which the first one is run at its outer border", second, first)
}

func TestErrorsOfRadius(t *testing.T) {
	checkOfOval(t, "Radius", func(o Oval) (any, api.Errno) { return Radius(o, 1) })
	checkRange(t, "a lane", 1, 8, api.ErrLane, func(n int) (any, api.Errno) { return Radius(oval(), n) })
	_, e := Radius(Oval{}, 0)
	check(t, "the oval ahead of the lane", e, api.ErrRange)
}

func TestLap(t *testing.T) {
	for _, x := range []struct {
		o    Oval
		lane int
		want api.Span
	}{
		{oval(), 1, spanOf("21199740/53", "2800660/7")},
		{oval(), 2, spanOf("21572700/53", "2849940/7")},
		{Oval{1, 7, 7, 0, 0, 1}, 1, spanOf("2437/53", "46")},
		{Oval{5, 53, 7, 0, 0, 2}, 1, spanOf("343", "2402/7")},
		{Oval{5, 100, 6, 5, 0, 2}, 2, spanOf("676", "4734/7")},
		{Oval{999999, 999999, 10000, 10000, 10000, 10}, 10, spanOf("472299561/53", "62399942/7")},
	} {
		s, e := Lap(x.o, x.lane)
		check(t, "the lap", s, x.want)
		check(t, "Lap", e, api.OK)
	}
}

func TestErrorsOfLap(t *testing.T) {
	checkOfOval(t, "Lap", func(o Oval) (any, api.Errno) { return Lap(o, 0) })
	checkRange(t, "a lane", 1, 8, api.ErrLane, func(n int) (any, api.Errno) { return Lap(oval(), n) })
}

func TestRun(t *testing.T) {
	for _, x := range []struct {
		lane, straights, bends int
		want                   api.Span
	}{
		{1, 0, 0, spanOf("0", "0")},
		{8, 3, 0, spanOf("253170", "253170")},
		{1, 0, 1, spanOf("6127200/53", "809600/7")},
		{1, 1, 1, spanOf("10599870/53", "1400330/7")},
		{1, 2, 2, spanOf("21199740/53", "2800660/7")},
		{3, 16, 16, spanOf("175831680/53", "23228960/7")},
	} {
		s, e := Run(oval(), x.lane, x.straights, x.bends)
		check(t, "the run", s, x.want)
		check(t, "Run", e, api.OK)
	}
}

func TestErrorsOfRun(t *testing.T) {
	checkOfOval(t, "Run", func(o Oval) (any, api.Errno) { return Run(o, 0, -1, -1) })
	checkRange(t, "a lane", 1, 8, api.ErrLane, func(n int) (any, api.Errno) { return Run(oval(), n, 1, 1) })
	checkRange(t, "straights", 0, 16, api.ErrRange, func(n int) (any, api.Errno) { return Run(oval(), 1, n, 1) })
	checkRange(t, "bends", 0, 16, api.ErrRange, func(n int) (any, api.Errno) { return Run(oval(), 1, 1, n) })
	_, e := Run(oval(), 9, 17, 17)
	check(t, "the lane ahead of the numbers", e, api.ErrLane)
}

func lowBound() *big.Rat  { return big.NewRat(333, 106) }
func highBound() *big.Rat { return big.NewRat(22, 7) }

// numberOf returns the fraction of a number.
func numberOf(x api.Rat) *big.Rat {
	r, ok := new(big.Rat).SetString(string(x))
	if !ok {
		panic("no number: " + string(x))
	}
	return r
}

func textOf(x *big.Rat) api.Rat { return api.Rat(x.RatString()) }

// withPi returns a and b times a bound of pi.
func withPi(a, b int, pi *big.Rat) *big.Rat {
	x := new(big.Rat).Mul(big.NewRat(int64(b), 1), pi)
	return x.Add(x, big.NewRat(int64(a), 1))
}

// spanWithPi returns the span of a length with pi, from its lesser end on.
func spanWithPi(a, b int) api.Span {
	x, y := withPi(a, b, lowBound()), withPi(a, b, highBound())
	if x.Cmp(y) > 0 {
		x, y = y, x
	}
	return spanOf(textOf(x), textOf(y))
}

// radiusOf returns the running radius as the chapter says it.
func radiusOf(o Oval, lane int) int {
	from := o.Radius + (lane-1)*o.Width
	if lane == 1 {
		return from + o.First
	}
	return from + o.Other
}

// randomOval returns an oval of a random size, some of them with short straights and bends.
func randomOval(r *rand.Rand) Oval {
	size := []int{3, 50, 1000, 999999}[r.Intn(4)]
	width := 1 + r.Intn(min(size, 10000))
	return Oval{1 + r.Intn(size), 1 + r.Intn(size), width, r.Intn(width + 1), r.Intn(width + 1), 1 + r.Intn(10)}
}

func TestRandomRuns(t *testing.T) {
	r := rand.New(rand.NewSource(1))
	for range 2000 {
		o := randomOval(r)
		check(t, "the oval", CheckOval(o), api.OK)
		lane, straights, bends := 1+r.Intn(o.Lanes), r.Intn(17), r.Intn(17)
		radius, e := Radius(o, lane)
		check(t, "the radius", radius, radiusOf(o, lane))
		check(t, "Radius", e, api.OK)
		s, e := Run(o, lane, straights, bends)
		check(t, "the run", s, spanWithPi(straights*o.Straight, bends*radius))
		check(t, "Run", e, api.OK)
		s, e = Lap(o, lane)
		check(t, "the lap", s, spanWithPi(2*o.Straight, 2*radius))
		check(t, "Lap", e, api.OK)
	}
}
