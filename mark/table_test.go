package mark

import (
	"math/big"
	"math/rand/v2"
	"slices"
	"testing"

	"stadion/api"
)

func TestCheckTable(t *testing.T) {
	point := func(x, y api.Rat) api.Point { return api.Point{X: x, Y: y} }
	var long []api.Point
	for i := range api.MaxBreaks + 1 {
		x, _ := Of(i, 3)
		long = append(long, point(x, "7"))
	}
	for _, c := range []struct {
		what string
		t    []api.Point
		e    api.Errno
	}{
		{"a table", []api.Point{point("0", "0"), point("10", "5"), point("20", "5")}, api.OK},
		{"one breakpoint", []api.Point{point("-1/2", "3")}, api.OK},
		{"the most breakpoints", long[:api.MaxBreaks], api.OK},
		{"no breakpoints", nil, api.ErrEmpty},
		{"too many breakpoints", long, api.ErrMany},
		{"too many breakpoints that are none", make([]api.Point, api.MaxBreaks+1), api.ErrMany},
		{"no X", []api.Point{point("", longRat)}, api.ErrForm},
		{"a long X", []api.Point{point(longRat, "")}, api.ErrLarge},
		{"no Y", []api.Point{point("1", "2/2")}, api.ErrForm},
		{"a long Y", []api.Point{point("1", longRat)}, api.ErrLarge},
		{"equal X", []api.Point{point("1", "0"), point("1", "2")}, api.ErrOrder},
		{"a lesser X", []api.Point{point("1/2", "0"), point("1/3", "2")}, api.ErrOrder},
		{"an error of Y ahead of the order", []api.Point{point("1", "0"), point("1", "x")}, api.ErrForm},
		{"the first breakpoint with an error", []api.Point{point("1", "0"), point("0", "2"), point("x", "2")}, api.ErrOrder},
	} {
		if e := CheckTable(c.t); e != c.e {
			t.Errorf("%s: got %v, want %v", c.what, e, c.e)
		}
	}
}

var longRat = api.Rat(longer)

func TestValue(t *testing.T) {
	table := []api.Point{{X: "0", Y: "0"}, {X: "10", Y: "5"}, {X: "20", Y: "5"}, {X: "61/3", Y: "-7/2"}}
	for x, want := range map[api.Rat]api.Rat{"4": "2", "-1": "0", "0": "0", "30": "-7/2", "10": "5", "15": "5", "20": "5", "1/3": "1/6", "61/3": "-7/2", "121/6": "3/4", api.Rat("-" + nines): "0", api.Rat(nines): "-7/2"} {
		got, e := Value(table, x)
		wantRat(t, "Value at "+string(x), got, e, want, api.OK)
	}
	got, e := Value(table[:3], "30")
	wantRat(t, "Value behind", got, e, "5", api.OK)
	got, e = Value(nil, "x")
	wantRat(t, "no table, and no number", got, e, "", api.ErrEmpty)
	got, e = Value(table, "x")
	wantRat(t, "no number", got, e, "", api.ErrForm)
	got, e = Value(table, longRat)
	wantRat(t, "a long number", got, e, "", api.ErrLarge)
	steep := []api.Point{{X: "0", Y: "0"}, {X: "1", Y: api.Rat(nines)}}
	got, e = Value(steep, "1/11")
	wantRat(t, "a long integer", got, e, api.Rat(elevenths(nines)), api.OK)
	got, e = Value(steep, "1/"+api.Rat(nines[1:]))
	wantRat(t, "a value with few digits over many", got, e, fracOf(t, nines, nines[1:]), api.OK)
	got, e = Value([]api.Point{{X: "0", Y: "0"}, {X: api.Rat(nines), Y: "1/2"}}, "1")
	wantRat(t, "a value with too many digits", got, e, "", api.ErrLarge)
	got, e = Value([]api.Point{{X: "0", Y: "0"}, {X: api.Rat(nines), Y: "1/2"}}, api.Rat(nines))
	wantRat(t, "a value that is a breakpoint's", got, e, "1/2", api.OK)
}

// elevenths returns the eleventh part of an integer.
func elevenths(digits string) string {
	n, _ := new(big.Int).SetString(digits, 10)
	return n.Div(n, big.NewInt(11)).String()
}

func fracOf(t *testing.T, num, den string) api.Rat {
	t.Helper()
	x, ok := new(big.Rat).SetString(num + "/" + den)
	if !ok {
		t.Fatal("no fraction")
	}
	return api.Rat(x.RatString())
}

func TestValueIsBetweenThoseOfTheBreakpoints(t *testing.T) {
	r := rand.New(rand.NewPCG(7, 8))
	for range 300 {
		places := r.Perm(200)[:2+r.IntN(10)]
		slices.Sort(places)
		var table []api.Point
		for _, p := range places {
			x, _ := Of(p-100, 7)
			y, _ := Of(r.IntN(2001)-1000, 1+r.IntN(12))
			table = append(table, api.Point{X: x, Y: y})
		}
		kept := slices.Clone(table)
		at := 1 + r.IntN(len(table)-1)
		a, b := table[at-1], table[at]
		part := big.NewRat(int64(r.IntN(101)), 100)
		x, ax, bx, ay, by := new(big.Rat), rat(a.X), rat(b.X), rat(a.Y), rat(b.Y)
		x.Sub(bx, ax).Mul(x, part).Add(x, ax)
		want := new(big.Rat).Sub(by, ay)
		want.Mul(want, part).Add(want, ay)
		got, e := Value(table, api.Rat(x.RatString()))
		wantRat(t, "Value", got, e, api.Rat(want.RatString()), api.OK)
		v := rat(got)
		if v.Cmp(ay)*v.Cmp(by) > 0 || !slices.Equal(kept, table) {
			t.Fatalf("Value(%v, %s): got %s", table, x, got)
		}
	}
}

func rat(a api.Rat) *big.Rat {
	x, _ := new(big.Rat).SetString(string(a))
	return x
}
