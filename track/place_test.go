package track

import (
	"math/big"
	"math/rand"
	"strconv"
	"testing"

	"stadion/api"
)

func TestBreak(t *testing.T) {
	for _, x := range []struct {
		what string
		o    Oval
		lane int
		want api.Span
	}{
		{"the lane 1", oval(), 1, spanOf("0", "0")},
		{"the lane 2", oval(), 2, spanOf("7", "8")},
		{"the lane 8", oval(), 8, spanOf("420", "421")},
		{"a whole hypotenuse", Oval{4, 1, 3, 0, 0, 2}, 2, spanOf("1", "1")},
		{"one that is not whole", Oval{4, 1, 2, 0, 0, 2}, 2, spanOf("0", "1")},
		{"a lane farther out", Oval{4, 1, 3, 0, 0, 3}, 3, spanOf("3", "4")},
		{"whole in a lane farther out", Oval{12, 1, 3, 1, 0, 3}, 3, spanOf("1", "1")},
		{"just above a whole one", Oval{999999, 1, 1, 0, 0, 2}, 2, spanOf("0", "1")},
		{"just below a whole one", Oval{1, 1, 10000, 0, 0, 2}, 2, spanOf("9999", "10000")},
		{"a lane 2 as long", Oval{1, 1, 10, 10, 0, 2}, 2, spanOf("0", "0")},
		{"the greatest break", Oval{1, 1, 10000, 0, 10000, 10}, 10, spanOf("99999", "100000")},
	} {
		s, e := Break(x.o, x.lane)
		check(t, x.what, s, x.want)
		check(t, x.what, e, api.OK)
	}
}

func TestErrorsOfBreak(t *testing.T) {
	checkOfOval(t, "Break", func(o Oval) (any, api.Errno) { return Break(o, 0) })
	checkRange(t, "a lane", 1, 8, api.ErrLane, func(n int) (any, api.Errno) { return Break(oval(), n) })
}

// TestRandomBreak compares with the integers between which the hypotenuse is.
func TestRandomBreak(t *testing.T) {
	r := rand.New(rand.NewSource(3))
	whole := map[bool]int{}
	for range 3000 {
		o := randomOval(r)
		lane := 1 + r.Intn(o.Lanes)
		aside := radiusOf(o, lane) - radiusOf(o, 1)
		sum := big.NewInt(int64(o.Straight*o.Straight + aside*aside))
		root := new(big.Int).Sqrt(sum)
		isWhole := new(big.Int).Mul(root, root).Cmp(sum) == 0
		whole[isWhole]++
		low := int(root.Int64()) - o.Straight
		high := low + 1
		if isWhole {
			high = low
		}
		s, e := Break(o, lane)
		check(t, "the break", s, spanOf(api.Rat(strconv.Itoa(low)), api.Rat(strconv.Itoa(high))))
		check(t, "Break", e, api.OK)
	}
	if whole[true] < 100 || whole[false] < 100 {
		t.Errorf("whole ones: %v", whole)
	}
}

func TestWhere(t *testing.T) {
	small := Oval{Straight: 10, Radius: 7, Width: 1, Lanes: 2} // bends from 2331/106, just below 22, to 22
	large := Oval{999999, 999999, 10000, 10000, 10000, 10}
	for _, x := range []struct {
		what     string
		o        Oval
		lane     int
		distance int
		want     Spot
	}{
		{"the start", oval(), 1, 0, Spot{0, 0, spanOf("0", "0")}},
		{"the first step", oval(), 1, 1, Spot{0, 0, spanOf("1", "1")}},
		{"the first bend", oval(), 1, 100000, Spot{0, 0, spanOf("100000", "100000")}},
		{"still the first bend", oval(), 1, 115607, Spot{0, 0, spanOf("115607", "115607")}},
		{"just the first straight", oval(), 1, 115658, Spot{0, 1, spanOf("6/7", "2674/53")}},
		{"the first straight", oval(), 1, 116000, Spot{0, 1, spanOf("2400/7", "20800/53")}},
		{"the second bend", oval(), 1, 200100, Spot{0, 2, spanOf("370/7", "5430/53")}},
		{"the second straight", oval(), 1, 350000, Spot{0, 3, spanOf("240070/7", "1822930/53")}},
		{"a lap", oval(), 1, 401000, Spot{1, 0, spanOf("6340/7", "53260/53")}},
		{"more laps", oval(), 1, 10050000, Spot{25, 0, spanOf("333500/7", "2656500/53")}},
		{"another lane's bend", oval(), 2, 118000, Spot{0, 0, spanOf("118000", "118000")}},
		{"another lane's straight", oval(), 2, 119200, Spot{0, 1, spanOf("160/7", "3920/53")}},
		{"a whole bend for the upper bound", small, 1, 22, Spot{0, 1, spanOf("0", "1/106")}},
		{"a whole bend and a straight", small, 1, 32, Spot{0, 2, spanOf("0", "1/106")}},
		{"two whole bends and a straight", small, 1, 54, Spot{0, 3, spanOf("0", "1/53")}},
		{"just before a lap", small, 1, 63, Spot{0, 3, spanOf("9", "478/53")}},
		{"a whole lap for the upper bound", small, 1, 64, Spot{1, 0, spanOf("0", "1/53")}},
		{"three whole laps", small, 1, 192, Spot{3, 0, spanOf("0", "3/53")}},
		{"the end of a bend for the lower bound", Oval{9, 106, 5, 0, 0, 1}, 1, 332, Spot{0, 0, spanOf("332", "332")}},
		{"the greatest distance", large, 10, 999999999, Spot{112, 0, spanOf("1600927", "102449115/53")}},
	} {
		w, e := Where(x.o, x.lane, x.distance)
		check(t, x.what, w, x.want)
		check(t, x.what, e, api.OK)
	}
}

func TestErrorsOfWhere(t *testing.T) {
	checkOfOval(t, "Where", func(o Oval) (any, api.Errno) { return Where(o, 0, -1) })
	checkRange(t, "a lane", 1, 8, api.ErrLane, func(n int) (any, api.Errno) { return Where(oval(), n, 7) })
	checkRange(t, "a distance", 0, 999999999, api.ErrRange, func(n int) (any, api.Errno) {
		w, e := Where(oval(), 1, n)
		return w, ignored(e, api.ErrOpen)
	})
	for _, x := range []struct {
		what     string
		o        Oval
		lane     int
		distance int
		want     api.Errno
	}{
		{"the lane ahead of the distance", oval(), 9, -1, api.ErrLane},
		{"the end of a bend for the lower bound alone", Oval{9, 106, 5, 0, 0, 1}, 1, 333, api.ErrOpen},
		{"just behind the end of a bend", oval(), 1, 115608, api.ErrOpen},
		{"near the end of a bend", oval(), 1, 115630, api.ErrOpen},
		{"just before the end of a bend", oval(), 1, 115657, api.ErrOpen},
		{"another lane's end of a bend", oval(), 2, 119150, api.ErrOpen},
		{"near the end of the first straight", oval(), 1, 200020, api.ErrOpen},
		{"near the end of the second bend", oval(), 1, 315700, api.ErrOpen},
		{"near the end of a lap", oval(), 1, 400050, api.ErrOpen},
		{"the same part of other laps", Oval{1, 1000, 1, 0, 0, 1}, 1, 16000000, api.ErrOpen},
		{"the greatest distance", oval(), 1, 999999999, api.ErrOpen},
	} {
		w, e := Where(x.o, x.lane, x.distance)
		check(t, x.what, e, x.want)
		checkNothing(t, x.what, w)
	}
}

// walked returns the laps, the part and the distance in it for a bound of pi, by going through one part after another.
func walked(o Oval, lane, distance int, pi *big.Rat) (laps, part int, at *big.Rat) {
	bend, straight := withPi(0, radiusOf(o, lane), pi), big.NewRat(int64(o.Straight), 1)
	at = big.NewRat(int64(distance), 1)
	for i := 0; ; i++ {
		next := bend
		if i%2 == 1 {
			next = straight
		}
		if at.Cmp(next) < 0 {
			return i / 4, i % 4, at
		}
		at.Sub(at, next)
	}
}

func TestRandomWhere(t *testing.T) {
	r := rand.New(rand.NewSource(4))
	results := map[string]int{}
	for range 4000 {
		o := randomOval(r)
		lane := 1 + r.Intn(o.Lanes)
		lap := 2*o.Straight + 7*radiusOf(o, lane)
		distance := r.Intn(min([]int{2, 40, 1000}[r.Intn(3)]*lap, 1000000000))
		laps, part, high := walked(o, lane, distance, lowBound())
		otherLaps, otherPart, low := walked(o, lane, distance, highBound())
		w, e := Where(o, lane, distance)
		if laps != otherLaps || part != otherPart {
			check(t, "a place that is not told", []any{w, e}, []any{Spot{}, api.ErrOpen})
			results["open"]++
			continue
		}
		check(t, "the place", w, Spot{laps, part, spanOf(textOf(low), textOf(high))})
		check(t, "Where", e, api.OK)
		results["told"]++
	}
	if results["open"] < 100 || results["told"] < 1000 {
		t.Errorf("the results are %v", results)
	}
}

func TestAhead(t *testing.T) {
	for _, x := range []struct {
		a, b, laps int
		want       api.Span
	}{
		{2, 1, 1, spanOf("372960/53", "7040")},
		{1, 2, 1, spanOf("-7040", "-372960/53")},
		{3, 2, 1, spanOf("406260/53", "53680/7")},
		{2, 1, 25, spanOf("9324000/53", "176000")},
		{8, 1, 100, spanOf("281052000/53", "37136000/7")},
		{1, 8, 100, spanOf("-37136000/7", "-281052000/53")},
		{8, 1, 0, spanOf("0", "0")},
		{3, 3, 9, spanOf("0", "0")},
	} {
		s, e := Ahead(oval(), x.a, x.b, x.laps)
		check(t, "what a lane is longer", s, x.want)
		check(t, "Ahead", e, api.OK)
	}
}

func TestErrorsOfAhead(t *testing.T) {
	checkOfOval(t, "Ahead", func(o Oval) (any, api.Errno) { return Ahead(o, 0, 0, -1) })
	checkRange(t, "a lane", 1, 8, api.ErrLane, func(n int) (any, api.Errno) { return Ahead(oval(), n, 1, 1) })
	checkRange(t, "another lane", 1, 8, api.ErrLane, func(n int) (any, api.Errno) { return Ahead(oval(), 1, n, 1) })
	checkRange(t, "laps", 0, 100, api.ErrRange, func(n int) (any, api.Errno) { return Ahead(oval(), 2, 1, n) })
	_, e := Ahead(oval(), 1, 9, 101)
	check(t, "the lanes ahead of the laps", e, api.ErrLane)
}

func TestRandomAhead(t *testing.T) {
	r := rand.New(rand.NewSource(5))
	for range 2000 {
		o, laps := randomOval(r), r.Intn(101)
		a, b := 1+r.Intn(o.Lanes), 1+r.Intn(o.Lanes)
		s, e := Ahead(o, a, b, laps)
		check(t, "what a lane is longer", s, spanWithPi(0, 2*laps*(radiusOf(o, a)-radiusOf(o, b))))
		check(t, "Ahead", e, api.OK)
	}
}
