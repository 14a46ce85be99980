package mark

import (
	"math/big"
	"math/rand/v2"
	"slices"
	"strings"
	"testing"

	"stadion/api"
)

func wantRats(t *testing.T, what string, got []api.Rat, e api.Errno, wanted []api.Rat, wantedError api.Errno) {
	t.Helper()
	if !slices.Equal(got, wanted) || e != wantedError {
		t.Errorf("%s: got %.200v and %v, want %.200v and %v", what, got, e, wanted, wantedError)
	}
}

func identity(size int) [][]api.Rat {
	m := make([][]api.Rat, size)
	for i := range m {
		m[i] = slices.Repeat([]api.Rat{"0"}, size)
		m[i][i] = "1"
	}
	return m
}

func TestSolve(t *testing.T) {
	short := [][]api.Rat{{"1", "1"}, {"1", "-1"}}
	for _, c := range []struct {
		what string
		m    [][]api.Rat
		b    []api.Rat
		want []api.Rat
		e    api.Errno
	}{
		{"the example", short, []api.Rat{"3", "1"}, []api.Rat{"2", "1"}, api.OK},
		{"one equation", [][]api.Rat{{"-2/3"}}, []api.Rat{"5"}, []api.Rat{"-15/2"}, api.OK},
		{"rows that are exchanged", [][]api.Rat{{"0", "2"}, {"3", "0"}}, []api.Rat{"4", "3"}, []api.Rat{"1", "2"}, api.OK},
		{"the solution 0", short, []api.Rat{"0", "0"}, []api.Rat{"0", "0"}, api.OK},
		{"a determinant that is the first prime", [][]api.Rat{{"2147483647", "0"}, {"0", "1"}}, []api.Rat{"1", "1"}, []api.Rat{"1/2147483647", "1"}, api.OK},
		{"a denominator that is the first prime", [][]api.Rat{{"1/2147483647"}}, []api.Rat{"3"}, []api.Rat{"6442450941"}, api.OK},
		{"a right side with such a denominator", [][]api.Rat{{"1", "1"}, {"1", "-1"}}, []api.Rat{"3/2147483647", "1/2147483647"}, []api.Rat{"2/2147483647", "1/2147483647"}, api.OK},
		{"a singular square with such a denominator", [][]api.Rat{{"1/2147483647", "1"}, {"1", "2147483647"}}, []api.Rat{"3", "1"}, nil, api.ErrSingular},
		{"a singular square", [][]api.Rat{{"1", "1"}, {"2", "2"}}, []api.Rat{"3", "6"}, nil, api.ErrSingular},
		{"equations that contradict each other", [][]api.Rat{{"1", "1"}, {"2", "2"}}, []api.Rat{"3", "7"}, nil, api.ErrSingular},
		{"zeros", [][]api.Rat{{"0"}}, []api.Rat{"0"}, nil, api.ErrSingular},
		{"a row of zeros", [][]api.Rat{{"1", "2"}, {"0", "0"}}, []api.Rat{"0", "1"}, nil, api.ErrSingular},
		{"no equations", nil, []api.Rat{"x"}, nil, api.ErrEmpty},
		{"too many equations", make([][]api.Rat, 25), nil, nil, api.ErrMany},
		{"a row that is too short", [][]api.Rat{{"1", "1"}, {"1"}}, []api.Rat{"3", "1"}, nil, api.ErrShape},
		{"a row that is too long", [][]api.Rat{{"1", "x", "1"}, {"1", "1"}}, []api.Rat{"3", "1"}, nil, api.ErrShape},
		{"a number ahead of a later row", [][]api.Rat{{"1", "2/2"}, {"1"}}, nil, nil, api.ErrForm},
		{"the first number with an error", [][]api.Rat{{longRat, "x"}, {"1"}}, nil, nil, api.ErrLarge},
		{"a right side that is too short", short, []api.Rat{"x"}, nil, api.ErrShape},
		{"a right side that is too long", short, []api.Rat{"1", "2", "3"}, nil, api.ErrShape},
		{"a right side with an error ahead of what is singular", [][]api.Rat{{"1", "1"}, {"2", "2"}}, []api.Rat{"1", "x"}, nil, api.ErrForm},
	} {
		got, e := Solve(c.m, c.b)
		wantRats(t, c.what, got, e, c.want, c.e)
	}
	ones := slices.Repeat([]api.Rat{"1"}, MaxEquations)
	got, e := Solve(identity(MaxEquations), ones)
	wantRats(t, "the most equations", got, e, ones, api.OK)
}

func TestSolveWithLongNumbers(t *testing.T) {
	n, m := api.Rat(nines), api.Rat("-"+nines+"/"+longer[:api.MaxDigits])
	got, e := Solve([][]api.Rat{{n, "0"}, {"0", m}}, []api.Rat{n, m})
	wantRats(t, "long numbers with a short solution", got, e, []api.Rat{"1", "1"}, api.OK)
	got, e = Solve([][]api.Rat{{"1", "0"}, {"0", "1"}}, []api.Rat{n, m})
	wantRats(t, "a long solution", got, e, []api.Rat{n, m}, api.OK)
	got, e = Solve([][]api.Rat{{"1", "0"}, {"0", "1/2"}}, []api.Rat{"1", n})
	wantRats(t, "a solution that is too long", got, e, nil, api.ErrLarge)
	got, e = Solve([][]api.Rat{{n, "0"}, {"0", "2"}}, []api.Rat{"1/2", "1"})
	wantRats(t, "a solution with a denominator that is too long", got, e, nil, api.ErrLarge)
	got, e = Solve([][]api.Rat{{n, n}, {n, n}}, []api.Rat{"1/2", "1"})
	wantRats(t, "long numbers that are singular", got, e, nil, api.ErrSingular)
}

// The images of these solutions, modulo a power of the first prime, are also those of short numbers.
func TestSolveWithMisleadingImages(t *testing.T) {
	power := api.Rat(new(big.Int).Exp(big.NewInt(2147483647), big.NewInt(64), nil).String())
	got, e := Solve([][]api.Rat{{"1", "0"}, {power, "-1"}}, []api.Rat{power, "0"})
	wantRats(t, "a power of the prime", got, e, nil, api.ErrLarge)
	got, e = Solve([][]api.Rat{{"1", "0", "0"}, {power, "-1", "0"}, {"0", power, "-1"}}, []api.Rat{power, "0", "-1"})
	wantRats(t, "a power of the prime and 1", got, e, nil, api.ErrLarge)
	got, e = Solve([][]api.Rat{{power}}, []api.Rat{"1"})
	wantRats(t, "a square that is 0 modulo the prime", got, e, []api.Rat{"1/" + power}, api.OK)
}

// fractions is the field of all fractions: what the lifted solution has to agree with.
type fractions struct{}

func (fractions) isZero(a *big.Rat) bool       { return a.Sign() == 0 }
func (fractions) inverse(a *big.Rat) *big.Rat  { return new(big.Rat).Inv(a) }
func (fractions) times(a, b *big.Rat) *big.Rat { return new(big.Rat).Mul(a, b) }
func (fractions) minus(a, b *big.Rat) *big.Rat { return new(big.Rat).Sub(a, b) }

// solveByFractions solves equations by elimination with fractions.
func solveByFractions(m [][]api.Rat, b []api.Rat) ([]api.Rat, api.Errno) {
	rows := make([][]*big.Rat, len(m))
	for i := range m {
		for _, a := range append(slices.Clone(m[i]), b[i]) {
			rows[i] = append(rows[i], rat(a))
		}
	}
	if !eliminate(fractions{}, rows) {
		return nil, api.ErrSingular
	}
	x := make([]api.Rat, len(m))
	for i, row := range rows {
		var e api.Errno
		if x[i], e = textOf(row[len(m)]); e != api.OK {
			return nil, e
		}
	}
	return x, api.OK
}

// randomEquations returns equations with integers up to a number of digits, over others.
func randomEquations(r *rand.Rand, size, digits, denDigits int) ([][]api.Rat, []api.Rat) {
	number := func() api.Rat {
		num, den := randomDigits(r, digits), randomDigits(r, denDigits)
		if r.IntN(3) == 0 {
			num.SetInt64(int64(r.IntN(3) - 1))
		}
		if r.IntN(2) == 0 {
			num.Neg(num)
		}
		return api.Rat(new(big.Rat).SetFrac(num, den.Add(den, big.NewInt(1))).RatString())
	}
	row := func() []api.Rat {
		out := make([]api.Rat, size)
		for i := range out {
			out[i] = number()
		}
		return out
	}
	m := make([][]api.Rat, size)
	for i := range m {
		m[i] = row()
	}
	return m, row()
}

func randomDigits(r *rand.Rand, digits int) *big.Int {
	var text strings.Builder
	text.WriteByte('0')
	for range digits {
		text.WriteByte(byte('0' + r.IntN(10)))
	}
	n, _ := new(big.Int).SetString(text.String(), 10)
	return n
}

func TestSolveAgainstFractions(t *testing.T) {
	r := rand.New(rand.NewPCG(9, 10))
	errors := map[api.Errno]int{}
	for range 400 {
		size := 1 + r.IntN(6)
		m, b := randomEquations(r, size, []int{1, 1, 3, 10, 90, 300}[r.IntN(6)], []int{0, 0, 1, 10, 90}[r.IntN(5)])
		if size > 1 && r.IntN(4) == 0 {
			m[size-1] = slices.Clone(m[0])
		}
		got, e := Solve(m, b)
		want, wantedError := solveByFractions(m, b)
		wantRats(t, "Solve", got, e, want, wantedError)
		errors[e]++
	}
	if errors[api.OK] < 30 || errors[api.ErrLarge] < 30 || errors[api.ErrSingular] < 30 {
		t.Errorf("some results are too rare: %v", errors)
	}
}

func TestSolveLargestEquations(t *testing.T) {
	r := rand.New(rand.NewPCG(11, 12))
	m, b := randomEquations(r, MaxEquations, api.MaxDigits-10, 0)
	x := make([]api.Rat, MaxEquations)
	for i := range x {
		x[i], _ = Of(r.IntN(2000)-1000, 1+r.IntN(3))
	}
	for i, row := range m {
		b[i] = "0"
		for j, a := range row {
			product, _ := Mul(a, x[j])
			b[i], _ = Add(b[i], product)
		}
	}
	got, e := Solve(m, b)
	wantRats(t, "equations with a known solution", got, e, x, api.OK)
	m[5] = slices.Clone(m[17])
	got, e = Solve(m, b)
	wantRats(t, "equal rows", got, e, nil, api.ErrSingular)
	m, b = randomEquations(r, MaxEquations, api.MaxDigits, api.MaxDigits-1)
	got, e = Solve(m, b)
	wantRats(t, "the longest equations", got, e, nil, api.ErrLarge)
}

func TestSolveKeepsItsArguments(t *testing.T) {
	m := [][]api.Rat{{"0", "2"}, {"3", "0"}}
	b := []api.Rat{"4", "3"}
	Solve(m, b)
	if !slices.Equal(m[0], []api.Rat{"0", "2"}) || !slices.Equal(m[1], []api.Rat{"3", "0"}) || !slices.Equal(b, []api.Rat{"4", "3"}) {
		t.Errorf("the arguments are now %v and %v", m, b)
	}
}

func TestPrimes(t *testing.T) {
	next, count := uint64(mersenne), 0
	for p := range primes() {
		for ; next > p; next -= 2 {
			if new(big.Int).SetUint64(next).ProbablyPrime(1) {
				t.Fatalf("the prime %d is left out", next)
			}
		}
		if !new(big.Int).SetUint64(p).ProbablyPrime(1) {
			t.Fatalf("%d is no prime", p)
		}
		if next, count = p-2, count+1; count == 200 {
			break
		}
	}
	if isPrime(46337*46337) || !isPrime(3) || isPrime(9) {
		t.Error("squares of primes are no primes, but 3 is one")
	}
}
