package natural

import (
	"math/big"
	"math/rand"
	"strings"
	"testing"

	"stadion/api"
)

// check compares a number with one of math/big, and checks that it has its form.
func check(t *testing.T, what string, got Number, want *big.Int) {
	t.Helper()
	if got.String() != want.String() {
		t.Errorf("%s: got %s, want %s", what, got, want)
	}
	for i, part := range got {
		if part < 0 || part > 999999999 || part == 0 && i == len(got)-1 {
			t.Errorf("%s: the parts are %v", what, []int(got))
		}
	}
}

// text returns the digits of a number, many of which are at the ends of their range.
func text(r *rand.Rand) string {
	digits := []string{"0", "9", "10", "123456789", "1", "499999999", "500000000"}[r.Intn(7)]
	for range r.Intn(30) {
		digits += []string{"0", "9", "5", "000000000", "999999999", "000000001", "314159265"}[r.Intn(7)]
	}
	if x := strings.TrimLeft(digits, "0"); x != "" {
		return x
	}
	return "0"
}

func TestNumbersAgainstBig(t *testing.T) {
	r := rand.New(rand.NewSource(9))
	for range 20000 {
		s, u := text(r), text(r)
		if r.Intn(4) == 0 {
			u = s
		}
		a, b := Of(s), Of(u)
		x, _ := new(big.Int).SetString(s, 10)
		y, _ := new(big.Int).SetString(u, 10)
		check(t, "the number", a, x)
		check(t, "the product", a.Times(b), new(big.Int).Mul(x, y))
		check(t, "the sum", a.Plus(b), new(big.Int).Add(x, y))
		check(t, "the divisor", Divisor(a, b), new(big.Int).GCD(nil, nil, x, y))
		if got, want := a.IsAbove(b), x.Cmp(y) > 0; got != want {
			t.Errorf("whether %s is above %s: got %v", s, u, got)
		}
		if y.Sign() == 0 {
			continue
		}
		quotient, rest := a.Divide(b)
		z, m := new(big.Int).QuoRem(x, y, new(big.Int))
		check(t, "the quotient", quotient, z)
		check(t, "the rest", rest, m)
		quotient, rest = a.Times(b).Divide(b)
		check(t, "the quotient without a rest", quotient, x)
		check(t, "the rest that is none", rest, new(big.Int))
	}
}

func TestStrings(t *testing.T) {
	for digits, want := range map[string]string{
		"": "0", "0": "0", "000": "0", "7": "7", "007": "7", "1000000000": "1000000000",
		"12000000003000000000": "12000000003000000000", "0000000000000000001": "1",
	} {
		if got := Of(digits).String(); got != want {
			t.Errorf("the digits of %q: got %s, want %s", digits, got, want)
		}
	}
}

func TestFraction(t *testing.T) {
	for x, want := range map[api.Rat][2]string{
		"0": {"0", "1"}, "7": {"7", "1"}, "3/2": {"3", "2"}, "1/12345678901": {"1", "12345678901"},
	} {
		num, den := Fraction(x)
		if got := [2]string{num.String(), den.String()}; got != want {
			t.Errorf("the fraction %s: got %v, want %v", x, got, want)
		}
	}
}

// TestNumbersStay checks that no computation changes a number with which it is done.
func TestNumbersStay(t *testing.T) {
	r := rand.New(rand.NewSource(10))
	for range 2000 {
		s, u := text(r), "1"+text(r)
		a, b := Of(s), Of(u)
		a.Plus(b)
		a.Times(b)
		quotient, rest := a.Divide(b)
		quotient.Times(rest).Plus(rest)
		Divisor(a, b)
		if a.String() != s || b.String() != u {
			t.Errorf("%s and %s have become %s and %s", s, u, a, b)
		}
	}
}
