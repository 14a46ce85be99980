package mark

import (
	"math"
	"math/big"
	"math/rand/v2"
	"strings"
	"testing"

	"stadion/api"
)

// nines is the greatest integer that is a number, longer the least one that is not.
var (
	nines  = strings.Repeat("9", api.MaxDigits)
	longer = "1" + strings.Repeat("0", api.MaxDigits)
)

func TestIsName(t *testing.T) {
	for _, s := range []string{"A", "z", "Ann_1", "a_", "Zz09_", strings.Repeat("a", 24)} {
		if !IsName(s) {
			t.Errorf("%q is a name", s)
		}
	}
	for _, s := range []string{"", "1a", "_a", "9", "a b", "a-b", "é", "aé", "a\xff", "a\x00", "[", "`", "@", "{", "a/", "a:", strings.Repeat("a", 25)} {
		if IsName(s) {
			t.Errorf("%q is no name", s)
		}
	}
}

func TestCheck(t *testing.T) {
	for _, c := range []struct {
		a api.Rat
		e api.Errno
	}{
		{"0", api.OK}, {"-7", api.OK}, {"3/2", api.OK}, {"-3/2", api.OK}, {"10", api.OK}, {"1/10", api.OK},
		{api.Rat(nines), api.OK}, {api.Rat("-" + nines), api.OK}, {api.Rat("1/" + nines), api.OK},
		{"", api.ErrForm}, {"-", api.ErrForm}, {"/", api.ErrForm}, {"1/", api.ErrForm}, {"/2", api.ErrForm}, {"-/2", api.ErrForm},
		{"-0", api.ErrForm}, {"-0/3", api.ErrForm}, {"00", api.ErrForm}, {"01", api.ErrForm}, {"-01", api.ErrForm}, {"+1", api.ErrForm}, {"--1", api.ErrForm},
		{"1/0", api.ErrForm}, {"1/1", api.ErrForm}, {"1/02", api.ErrForm}, {"1/-2", api.ErrForm}, {"1/2/3", api.ErrForm},
		{" 1", api.ErrForm}, {"1 ", api.ErrForm}, {"1.5", api.ErrForm}, {"1e3", api.ErrForm}, {"x", api.ErrForm}, {"1/x", api.ErrForm}, {"١", api.ErrForm},
		{"2/4", api.ErrForm}, {"-3/6", api.ErrForm}, {"0/5", api.ErrForm}, {"4/2", api.ErrForm}, {api.Rat(nines + "/3"), api.ErrForm},
		{api.Rat(longer), api.ErrLarge}, {api.Rat("-" + longer), api.ErrLarge}, {api.Rat("1/" + longer), api.ErrLarge},
		{api.Rat("2/" + longer), api.ErrLarge}, {api.Rat("0/" + longer), api.ErrLarge}, // the digits come ahead of the common divisor
		{api.Rat("x" + longer), api.ErrForm}, {api.Rat("0" + longer), api.ErrForm}, {api.Rat(longer + "/1"), api.ErrForm}, // the form comes ahead of the digits
	} {
		if e := Check(c.a); e != c.e {
			t.Errorf("Check(%.20q..): got %v, want %v", c.a, e, c.e)
		}
	}
}

// wantRat reports a number or an error that is not the wanted one.
func wantRat(t *testing.T, what string, got api.Rat, e api.Errno, wanted api.Rat, wantedError api.Errno) {
	t.Helper()
	if got != wanted || e != wantedError {
		t.Errorf("%s: got %q and %v, want %q and %v", what, got, e, wanted, wantedError)
	}
}

func TestOf(t *testing.T) {
	for _, c := range []struct {
		num, den int
		a        api.Rat
		e        api.Errno
	}{
		{6, -4, "-3/2", api.OK}, {-6, -4, "3/2", api.OK}, {0, -5, "0", api.OK}, {4, 2, "2", api.OK}, {1, 3, "1/3", api.OK},
		{math.MinInt, -1, "9223372036854775808", api.OK}, {math.MinInt, math.MinInt, "1", api.OK}, {1, math.MinInt, "-1/9223372036854775808", api.OK},
		{math.MaxInt, math.MinInt, "-9223372036854775807/9223372036854775808", api.OK},
		{1, 0, "", api.ErrZero}, {0, 0, "", api.ErrZero},
	} {
		a, e := Of(c.num, c.den)
		wantRat(t, "Of", a, e, c.a, c.e)
	}
}

type operation = func(a, b api.Rat) (api.Rat, api.Errno)

func TestExamplesOfOperations(t *testing.T) {
	for _, c := range []struct {
		what string
		f    operation
		a, b api.Rat
		want api.Rat
		e    api.Errno
	}{
		{"Add", Add, "1/3", "1/6", "1/2", api.OK}, {"Add", Add, "-1/2", "1/2", "0", api.OK},
		{"Sub", Sub, "1/3", "1/2", "-1/6", api.OK}, {"Sub", Sub, "5", "7", "-2", api.OK},
		{"Mul", Mul, "-2/3", "3", "-2", api.OK}, {"Mul", Mul, "0", "-3/7", "0", api.OK},
		{"Div", Div, "1", "-4", "-1/4", api.OK}, {"Div", Div, "0", "-4", "0", api.OK}, {"Div", Div, "-3/2", "-3/2", "1", api.OK},
		{"Div by 0", Div, "1", "0", "", api.ErrZero}, {"Div of 0 by 0", Div, "0", "0", "", api.ErrZero},
		{"Div of no number by 0", Div, "x", "0", "", api.ErrForm}, {"Div by no number", Div, "1", "0/2", "", api.ErrForm},
		{"the sum of the greatest number and 1", Add, api.Rat(nines), "1", "", api.ErrLarge},
		{"the sum of the greatest number and -1", Add, api.Rat(nines), "-1", api.Rat(nines[1:] + "8"), api.OK},
		{"the difference of the least number and 1", Sub, api.Rat("-" + nines), "1", "", api.ErrLarge},
		{"a large product", Mul, api.Rat(nines), "2", "", api.ErrLarge},
		{"a product with a large denominator", Mul, api.Rat("1/" + nines), "1/2", "", api.ErrLarge},
		{"a product that is short though its factors are long", Mul, api.Rat("1/" + nines), api.Rat("-" + nines), "-1", api.OK},
		{"a quotient of long numbers", Div, api.Rat(nines), api.Rat(nines), "1", api.OK},
		{"a large quotient", Div, "1/2", api.Rat(nines), "", api.ErrLarge},
	} {
		a, e := c.f(c.a, c.b)
		wantRat(t, c.what, a, e, c.want, c.e)
	}
}

func TestErrorsOfOperations(t *testing.T) {
	order := func(a, b api.Rat) (api.Rat, api.Errno) {
		n, e := Order(a, b)
		if n != 0 {
			t.Errorf("Order with the error %v: got %v", e, n)
		}
		return "", e
	}
	for _, f := range []operation{Add, Sub, Mul, Div, order} {
		for _, c := range []struct {
			a, b api.Rat
			e    api.Errno
		}{
			{"", "1", api.ErrForm}, {"1", "", api.ErrForm}, {"2/4", "1", api.ErrForm}, {"1", "2/4", api.ErrForm},
			{api.Rat(longer), "x", api.ErrLarge}, {"x", api.Rat(longer), api.ErrForm}, {"1", api.Rat(longer), api.ErrLarge},
		} {
			a, e := f(c.a, c.b)
			wantRat(t, "an argument with an error", a, e, "", c.e)
		}
	}
	a, e := Floor("4/2")
	wantRat(t, "Floor of no number", a, e, "", api.ErrForm)
	a, e = Floor(api.Rat(longer))
	wantRat(t, "Floor of a long number", a, e, "", api.ErrLarge)
}

// randomNatural returns a number of up to so many words, which are often all zeros or all ones but for one bit.
func randomNatural(r *rand.Rand, words int) *big.Int {
	n := new(big.Int)
	for range r.IntN(words + 1) {
		w := []uint64{0, 1, 2, 1 << 63, 1<<63 - 1, 1<<63 + 1, math.MaxUint64, math.MaxUint64 - 1, r.Uint64(), r.Uint64() >> 32}[r.IntN(10)]
		n.Lsh(n, 64).Or(n, new(big.Int).SetUint64(w))
	}
	return n
}

// randomRat returns a fraction of at most 600 digits over as many.
func randomRat(r *rand.Rand) *big.Rat {
	words := 1 + r.IntN(31)
	if r.IntN(2) == 0 {
		words = 1
	}
	num, den := randomNatural(r, words), randomNatural(r, words)
	if r.IntN(2) == 0 {
		num.Neg(num)
	}
	if den.Sign() == 0 || r.IntN(4) == 0 {
		den.SetInt64(1)
	}
	return new(big.Rat).SetFrac(num, den)
}

// textOf returns the number of a fraction, and the error that it has as a result.
func textOf(x *big.Rat) (api.Rat, api.Errno) {
	num := strings.TrimPrefix(x.Num().String(), "-")
	if len(num) > api.MaxDigits || len(x.Denom().String()) > api.MaxDigits {
		return "", api.ErrLarge
	}
	return api.Rat(x.RatString()), api.OK
}

func TestOperationsAgainstBig(t *testing.T) {
	r := rand.New(rand.NewPCG(1, 2))
	for range 3000 {
		x, y := randomRat(r), randomRat(r)
		a, _ := textOf(x)
		b, _ := textOf(y)
		if Check(a) != api.OK {
			t.Fatalf("Check(%s): got %v", a, Check(a))
		}
		check := func(what string, f operation, z *big.Rat) {
			got, e := f(a, b)
			want, wantedError := textOf(z)
			wantRat(t, what+" of "+string(a)+" and "+string(b), got, e, want, wantedError)
		}
		check("Add", Add, new(big.Rat).Add(x, y))
		check("Sub", Sub, new(big.Rat).Sub(x, y))
		check("Mul", Mul, new(big.Rat).Mul(x, y))
		if y.Sign() != 0 {
			check("Div", Div, new(big.Rat).Quo(x, y))
		}
		if n, e := Order(a, b); n != x.Cmp(y) || e != api.OK {
			t.Errorf("Order(%s, %s): got %v and %v", a, b, n, e)
		}
		floor, e := Floor(a)
		want := new(big.Int).Div(x.Num(), x.Denom()).String() // Euclidean, the denominator is positive
		wantRat(t, "Floor of "+string(a), floor, e, api.Rat(want), api.OK)
	}
}

func TestNaturalAgainstBig(t *testing.T) {
	r := rand.New(rand.NewPCG(3, 4))
	for range 20000 {
		x, y := randomNatural(r, 6), randomNatural(r, 4)
		n, m := fromDigits(x.String()), fromDigits(y.String())
		if n.digits() != x.String() || n.bitLength() != x.BitLen() {
			t.Fatalf("%s is read as %s", x, n.digits())
		}
		want := func(what string, got natural, wanted *big.Int) {
			if got.digits() != wanted.String() {
				t.Fatalf("%s of %s and %s: got %s", what, x, y, got.digits())
			}
		}
		want("the sum", n.plus(m), new(big.Int).Add(x, y))
		want("the product", n.times(m), new(big.Int).Mul(x, y))
		want("the common divisor", divisor(n, m), new(big.Int).GCD(nil, nil, x, y))
		if x.Cmp(y) >= 0 {
			want("the difference", n.minus(m), new(big.Int).Sub(x, y))
		}
		if y.Sign() > 0 {
			quotient, rest := n.divide(m)
			want("the quotient", quotient, new(big.Int).Quo(x, y))
			want("the rest", rest, new(big.Int).Rem(x, y))
		}
	}
}

func TestFloor(t *testing.T) {
	for a, want := range map[api.Rat]api.Rat{"-3/2": "-2", "3/2": "1", "-1/3": "-1", "1/3": "0", "5": "5", "-5": "-5", "0": "0", api.Rat("-" + nines + "/2"): api.Rat("-5" + strings.Repeat("0", api.MaxDigits-1))} {
		got, e := Floor(a)
		wantRat(t, "Floor of "+string(a), got, e, want, api.OK)
	}
}

func TestOrder(t *testing.T) {
	for _, c := range []struct {
		a, b api.Rat
		want int
	}{{"1/3", "2/7", 1}, {"2/7", "1/3", -1}, {"1/3", "1/3", 0}, {"-1/3", "-2/7", -1}, {"-1", "0", -1}, {"0", "0", 0}, {"10", "9", 1}} {
		if n, e := Order(c.a, c.b); n != c.want || e != api.OK {
			t.Errorf("Order(%s, %s): got %v and %v, want %v", c.a, c.b, n, e, c.want)
		}
	}
}

func TestRoot(t *testing.T) {
	for n, want := range map[int]int{50: 7, 49: 7, 48: 6, 0: 0, 1: 1, 3: 1, 4: 2, 999999999: 31622, math.MaxInt: 3037000499, 3037000499 * 3037000499: 3037000499, 3037000499*3037000499 - 1: 3037000498} {
		if got, e := Root(n); got != want || e != api.OK {
			t.Errorf("Root(%d): got %d and %v, want %d", n, got, e, want)
		}
	}
	for n := range 10000 {
		if r, _ := Root(n); r*r > n || (r+1)*(r+1) <= n {
			t.Errorf("Root(%d): got %d", n, r)
		}
	}
	for _, n := range []int{-1, math.MinInt} {
		if got, e := Root(n); got != 0 || e != api.ErrRange {
			t.Errorf("Root(%d): got %d and %v", n, got, e)
		}
	}
}
