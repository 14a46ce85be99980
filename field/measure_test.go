package field

import (
	"math/big"
	"math/rand"
	"strings"
	"testing"

	"stadion/api"
	"stadion/mark"
)

// nines is the greatest integer that is a number, longer the least one that is not.
func nines() string  { return strings.Repeat("9", 600) }
func longer() string { return "1" + strings.Repeat("0", 600) }

// nearly returns numbers just below and just above a number, with about as many digits as possible.
func nearly(x string) (below, above api.Rat) {
	r, _ := new(big.Rat).SetString(x)
	little, _ := new(big.Rat).SetString("1/1" + strings.Repeat("0", 590))
	return api.Rat(new(big.Rat).Sub(r, little).RatString()), api.Rat(new(big.Rat).Add(r, little).RatString())
}

// lengthByCosine returns the length of a throw as the chapter defines it.
func lengthByCosine(c, l int, tangent api.Rat, radius int) int {
	t, _ := new(big.Rat).SetString(string(tangent))
	square := t.Mul(t, t)
	one := big.NewRat(1, 1)
	cosine := new(big.Rat).Sub(one, square)
	cosine.Quo(cosine, new(big.Rat).Add(one, square))
	d := big.NewRat(int64(c*c+l*l), 1)
	d.Sub(d, cosine.Mul(cosine, big.NewRat(int64(2*c*l), 1)))
	root := new(big.Int).Sqrt(new(big.Int).Quo(d.Num(), d.Denom()))
	return max(int(root.Int64())-radius, 0)
}

func TestThrow(t *testing.T) {
	below, above := nearly("3/4")
	for _, x := range []struct {
		what            string
		centre, landing int
		tangent         string
		radius, want    int
	}{
		{"a right angle", 30000, 40000, "1", 1000, 49000},
		{"the same direction", 30000, 40000, "0", 0, 10000},
		{"the same direction, the other way", 40000, 30000, "0", 0, 10000},
		{"the same point", 999999, 999999, "0", 0, 0},
		{"below the radius", 30000, 40000, "0", 10001, 0},
		{"just the radius", 30000, 40000, "0", 10000, 0},
		{"just above the radius", 30000, 40000, "0", 9999, 1},
		{"the greatest radius", 999999, 999999, "1000", 999999, 999998},
		{"one and one", 1, 1, "1", 0, 1},
		{"nearly opposite", 1, 1, nines(), 0, 1},
		{"nearly opposite, far", 999999, 999999, nines(), 0, 1999997},
		{"nearly opposite, different", 999999, 1, nines(), 0, 999999},
		{"nearly the same direction", 1, 999999, "1/" + nines(), 0, 999998},
		{"nearly the same point", 999999, 999999, "1/" + nines(), 0, 0},
		{"two long numbers", 5, 5, nines() + "/" + strings.Repeat("9", 599) + "8", 0, 7},
		{"a length without a rest", 5, 5, "3/4", 0, 6},
		{"just below it", 5, 5, string(below), 0, 5},
		{"just above it", 5, 5, string(above), 0, 6},
		{"a great length without a rest", 999995, 999995, "3/4", 0, 1199994},
		{"just below it", 999995, 999995, string(below), 0, 1199993},
	} {
		n, e := Throw(x.centre, x.landing, api.Rat(x.tangent), x.radius)
		check(t, x.what, n, x.want)
		check(t, x.what, e, api.OK)
		check(t, x.what+", by the cosine", lengthByCosine(x.centre, x.landing, api.Rat(x.tangent), x.radius), x.want)
	}
}

func TestThrowsOfAllKinds(t *testing.T) {
	r := rand.New(rand.NewSource(6))
	digits := func(n int) string {
		s := []byte{"123456789"[r.Intn(9)]}
		for len(s) < n {
			s = append(s, "0123456789"[r.Intn(10)])
		}
		return string(s)
	}
	for range 2000 {
		length := 1 + r.Intn(600)*r.Intn(2)
		x, _ := new(big.Rat).SetString(digits(length) + "/" + digits(max(1, length-3+r.Intn(7))))
		tangent := api.Rat(x.RatString())
		if mark.Check(tangent) != api.OK {
			continue
		}
		c, l := 1+r.Intn(999999), 1+r.Intn(999999)
		if r.Intn(3) == 0 {
			c, l = 1+r.Intn(9), 1+r.Intn(9)
		}
		radius := r.Intn(1 + r.Intn(1000))
		n, e := Throw(c, l, tangent, radius)
		check(t, "Throw", n, lengthByCosine(c, l, tangent, radius))
		check(t, "Throw", e, api.OK)
		if n < max(c-l, l-c)-radius || n > c+l-radius && n > 0 {
			t.Errorf("Throw(%d, %d, %s, %d): got %d", c, l, tangent, radius, n)
		}
	}
}

func TestErrorsOfThrow(t *testing.T) {
	type value struct {
		centre, landing int
		tangent         string
		radius          int
	}
	climb(t, "Throw", value{0, 0, "1/0", -1},
		func(x value) api.Errno {
			n, e := Throw(x.centre, x.landing, api.Rat(x.tangent), x.radius)
			if e != api.OK {
				checkNothing(t, "Throw", n)
			}
			return e
		},
		rung[value]{api.ErrRange, func(x *value) { x.centre = 1 }},
		rung[value]{api.ErrRange, func(x *value) { x.landing = 1 }},
		rung[value]{api.ErrForm, func(x *value) { x.tangent = "-" + longer() }},
		rung[value]{api.ErrLarge, func(x *value) { x.tangent = "-2/4" }},
		rung[value]{api.ErrForm, func(x *value) { x.tangent = "-1/" + nines() }},
		rung[value]{api.ErrRange, func(x *value) { x.tangent = "1/" + nines() }},
		rung[value]{api.ErrRange, func(x *value) { x.radius = 0 }})
	checkRange(t, "the centre", 1, 999999, func(n int) api.Errno { _, e := Throw(n, 5, "1", 0); return e })
	checkRange(t, "the landing", 1, 999999, func(n int) api.Errno { _, e := Throw(5, n, "1", 0); return e })
	checkRange(t, "the radius", 0, 999999, func(n int) api.Errno { _, e := Throw(5, 5, "1", n); return e })
	for tangent, want := range map[string]api.Errno{"": api.ErrForm, "1.5": api.ErrForm, "-0": api.ErrForm, "0": api.OK, "-1": api.ErrRange, "1/" + longer(): api.ErrLarge} {
		_, e := Throw(5, 5, api.Rat(tangent), 0)
		check(t, "the tangent "+tangent, e, want)
	}
}

func TestLeap(t *testing.T) {
	for _, x := range []struct {
		what          string
		a, b, landing [2]int
		want          int
	}{
		{"straight", [2]int{0, 0}, [2]int{1220, 0}, [2]int{3000, 4000}, 4000},
		{"a board of one millimetre", [2]int{0, 0}, [2]int{1, 0}, [2]int{3000, 4000}, 4000},
		{"the other way", [2]int{1220, 0}, [2]int{0, 0}, [2]int{3000, 4000}, 4000},
		{"on the other side", [2]int{0, 0}, [2]int{1220, 0}, [2]int{-3000, -4000}, 4000},
		{"along the second coordinate", [2]int{5, 0}, [2]int{5, 7}, [2]int{-3000, -4000}, 3005},
		{"not at the origin", [2]int{100, 50}, [2]int{1320, 50}, [2]int{3000, 4000}, 3950},
		{"askew", [2]int{0, 0}, [2]int{1, 1}, [2]int{0, 10}, 7},
		{"askew, without a rest", [2]int{0, 0}, [2]int{4, 3}, [2]int{0, 5}, 4},
		{"askew, just below", [2]int{0, 0}, [2]int{4, 3}, [2]int{1, 5}, 3},
		{"askew, just above", [2]int{0, 0}, [2]int{4, 3}, [2]int{-1, 5}, 4},
		{"askew, from elsewhere", [2]int{10, 20}, [2]int{14, 23}, [2]int{10, 25}, 4},
		{"on the board", [2]int{0, 0}, [2]int{4, 6}, [2]int{2, 3}, 0},
		{"on the line", [2]int{0, 0}, [2]int{4, 6}, [2]int{200000, 300000}, 0},
		{"less than a millimetre", [2]int{0, 0}, [2]int{999999, 999998}, [2]int{1, 0}, 0},
		{"as far as possible", [2]int{-999999, 999999}, [2]int{-999998, 999998}, [2]int{999999, 999999}, 1414212},
		{"as far as possible, from a corner", [2]int{-999999, -999999}, [2]int{-999998, -1000000 + 1}, [2]int{999999, 999999}, 1999998},
		{"as far as possible, across", [2]int{-999999, -999998}, [2]int{-999998, -999999}, [2]int{999999, 999999}, 2828423},
	} {
		n, e := Leap(x.a, x.b, x.landing)
		check(t, x.what, n, x.want)
		check(t, x.what, e, api.OK)
	}
}

// isDistance checks without roots whether n is the integer part of a distance from a line.
func isDistance(a, b, landing [2]int, n int) bool {
	x, y := big.NewInt(int64(b[0]-a[0])), big.NewInt(int64(b[1]-a[1]))
	area := new(big.Int).Mul(x, big.NewInt(int64(landing[1]-a[1])))
	area.Sub(area, new(big.Int).Mul(y, big.NewInt(int64(landing[0]-a[0]))))
	area.Mul(area, area)
	base := new(big.Int).Mul(x, x)
	base.Add(base, new(big.Int).Mul(y, y))
	times := func(n int) *big.Int {
		s := big.NewInt(int64(n))
		return s.Mul(s.Mul(s, s), base)
	}
	return times(n).Cmp(area) <= 0 && times(n+1).Cmp(area) > 0
}

func TestLeapsOfAllKinds(t *testing.T) {
	r := rand.New(rand.NewSource(61))
	for range 5000 {
		most := []int{5, 100, 999999}[r.Intn(3)]
		point := func() [2]int { return [2]int{r.Intn(2*most+1) - most, r.Intn(2*most+1) - most} }
		a, b, landing := point(), point(), point()
		if a == b {
			continue
		}
		n, e := Leap(a, b, landing)
		check(t, "Leap", e, api.OK)
		if !isDistance(a, b, landing, n) {
			t.Errorf("Leap(%v, %v, %v): got %d", a, b, landing, n)
		}
	}
}

func TestErrorsOfLeap(t *testing.T) {
	leap := func(x [3][2]int) api.Errno {
		n, e := Leap(x[0], x[1], x[2])
		if e != api.OK {
			checkNothing(t, "Leap", n)
		}
		return e
	}
	for point := range 3 {
		for i := range 2 {
			checkRange(t, "a coordinate", -999999, 999999, func(n int) api.Errno {
				x := [3][2]int{{1, 2}, {3, 4}, {5, 6}}
				x[point][i] = n
				return leap(x)
			})
		}
	}
	check(t, "no board", leap([3][2]int{{3, 4}, {3, 4}, {5, 6}}), api.ErrZero)
	check(t, "no board", leap([3][2]int{{3, 4}, {3, 4}, {3, 4}}), api.ErrZero)
	check(t, "no board, and no landing", leap([3][2]int{{3, 4}, {3, 4}, {5, 1000000}}), api.ErrRange)
	check(t, "no board, out of range", leap([3][2]int{{1000000, 4}, {1000000, 4}, {5, 6}}), api.ErrRange)
	check(t, "a landing on a point of the board", leap([3][2]int{{3, 4}, {5, 6}, {5, 6}}), api.OK)
}

func TestInSector(t *testing.T) {
	below, above := nearly("3/4")
	for _, x := range []struct {
		what    string
		landing [2]int
		slope   api.Rat
		want    bool
	}{
		{"inside", [2]int{3000, 4000}, "4/5", true},
		{"on the line", [2]int{3000, 4000}, "3/4", false},
		{"outside", [2]int{3000, 4000}, "2/3", false},
		{"just inside", [2]int{3000, 4000}, above, true},
		{"just outside", [2]int{3000, 4000}, below, false},
		{"inside, on the left", [2]int{-3000, 4000}, "4/5", true},
		{"on the left line", [2]int{-3000, 4000}, "3/4", false},
		{"outside, on the left", [2]int{-3001, 4000}, "3/4", false},
		{"in the middle", [2]int{0, 1}, "1/1000", true},
		{"in the middle", [2]int{0, 1}, api.Rat("1/" + nines()), true},
		{"a wide sector", [2]int{999999, 1}, api.Rat(nines()), true},
		{"a sector just too small", [2]int{999999, 1}, "999999", false},
		{"a narrow sector", [2]int{1, 999999}, "1/999998", true},
		{"a narrow sector, just too small", [2]int{1, 999999}, "1/999999", false},
		{"the centre", [2]int{0, 0}, "4/5", false},
		{"behind the centre", [2]int{0, -1}, "4/5", false},
		{"behind the centre", [2]int{5, -999999}, "4/5", false},
		{"beside the centre", [2]int{5, 0}, "4/5", false},
		{"far away", [2]int{-999999, 999999}, "1000000/999999", true},
	} {
		is, e := InSector(x.landing, x.slope)
		check(t, x.what, is, x.want)
		check(t, x.what, e, api.OK)
	}
	r := rand.New(rand.NewSource(62))
	for range 3000 {
		x, y, num, den := r.Intn(41)-20, r.Intn(41)-20, 1+r.Intn(9), 1+r.Intn(9)
		slope, _ := mark.Of(num, den)
		is, e := InSector([2]int{x, y}, slope)
		check(t, "InSector", is, y > 0 && max(x, -x)*den < num*y)
		check(t, "InSector", e, api.OK)
	}
}

func TestErrorsOfInSector(t *testing.T) {
	type value struct {
		landing [2]int
		slope   string
	}
	climb(t, "InSector", value{[2]int{1000000, -1000000}, "x"},
		func(x value) api.Errno {
			is, e := InSector(x.landing, api.Rat(x.slope))
			if e != api.OK {
				checkNothing(t, "InSector", is)
			}
			return e
		},
		rung[value]{api.ErrRange, func(x *value) { x.landing[0] = 0 }},
		rung[value]{api.ErrRange, func(x *value) { x.landing[1] = 1 }},
		rung[value]{api.ErrForm, func(x *value) { x.slope = longer() }},
		rung[value]{api.ErrLarge, func(x *value) { x.slope = "-2/2" }},
		rung[value]{api.ErrForm, func(x *value) { x.slope = "0" }},
		rung[value]{api.ErrRange, func(x *value) { x.slope = "-1/2" }},
		rung[value]{api.ErrRange, func(x *value) { x.slope = "1/" + nines() }})
	for i := range 2 {
		checkRange(t, "a coordinate", -999999, 999999, func(n int) api.Errno {
			x := [2]int{1, 2}
			x[i] = n
			_, e := InSector(x, "1")
			return e
		})
	}
	for _, landing := range [][2]int{{0, 0}, {0, -1}} {
		_, e := InSector(landing, "0")
		check(t, "no slope, and outside", e, api.ErrRange)
		_, e = InSector(landing, "")
		check(t, "no number, and outside", e, api.ErrForm)
	}
}
