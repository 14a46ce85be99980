package field

import (
	"math/big"
	"math/rand"
	"strings"
	"testing"
)

// bigOf returns a natural number as one of math/big.
func bigOf(n natural) *big.Int {
	x := new(big.Int)
	for i := len(n) - 1; i >= 0; i-- {
		x.Mul(x, big.NewInt(1000000000))
		x.Add(x, big.NewInt(int64(n[i])))
	}
	return x
}

func TestNaturals(t *testing.T) {
	r := rand.New(rand.NewSource(9))
	text := func() string {
		digits := []string{"0", "9", "10", "123456789"}[r.Intn(4)]
		for range r.Intn(30) {
			digits += []string{"0", "9", "5", "000000000", "999999999"}[r.Intn(5)]
		}
		if x := strings.TrimLeft(digits, "0"); x != "" {
			return x
		}
		return "0"
	}
	for range 3000 {
		s, u := text(), text()
		if r.Intn(4) == 0 {
			u = s
		}
		a, b := naturalOf(s), naturalOf(u)
		x, _ := new(big.Int).SetString(s, 10)
		y, _ := new(big.Int).SetString(u, 10)
		check(t, "the number", bigOf(a).String(), s)
		check(t, "the product", bigOf(a.times(b)).String(), new(big.Int).Mul(x, y).String())
		check(t, "the sum", bigOf(a.plus(b)).String(), new(big.Int).Add(x, y).String())
		check(t, "which one is above", a.isAbove(b), x.Cmp(y) > 0)
		check(t, "above a product with 0", a.plus(naturalOf("1")).isAbove(a.plus(b.times(naturalOf("0")))), true)
		check(t, "not above itself with 0", a.isAbove(a.plus(b.times(naturalOf("0")))), false)
	}
	for _, n := range []int{0, 1, -1, 999999999, 1000000000, -1000000001, 8000000000000} {
		x := big.NewInt(int64(n))
		check(t, "the square", bigOf(square(n)).String(), x.Mul(x, x).String())
	}
}
