package mark

import "iter"

// field is the arithmetic of the numbers that elimination works with.
type field[T any] interface {
	isZero(a T) bool
	inverse(a T) T
	times(a, b T) T
	minus(a, b T) T
}

// eliminate turns the square in front of the rows into that of the identity, if it is not singular, and reports whether it is not.
func eliminate[T any](f field[T], rows [][]T) bool {
columns:
	for col := range rows {
		for at := col; at < len(rows); at++ {
			if f.isZero(rows[at][col]) {
				continue
			}
			rows[col], rows[at] = rows[at], rows[col]
			clearColumn(f, rows, col)
			continue columns
		}
		return false
	}
	return true
}

// clearColumn makes the number of the row col in the column col 1, and those of the other rows 0. In front of this column the row has zeros.
func clearColumn[T any](f field[T], rows [][]T, col int) {
	lead := rows[col]
	inverse := f.inverse(lead[col])
	for j := col; j < len(lead); j++ {
		lead[j] = f.times(lead[j], inverse)
	}
	for i, row := range rows {
		if i == col {
			continue
		}
		factor := row[col]
		for j := col; j < len(row); j++ {
			row[j] = f.minus(row[j], f.times(factor, lead[j]))
		}
	}
}

// residues is the field of the remainders of division by a prime below 2 to the power of 31.
type residues uint64

func (p residues) isZero(a uint64) bool {
	return a == 0
}

func (p residues) times(a, b uint64) uint64 {
	return a * b % uint64(p)
}

func (p residues) minus(a, b uint64) uint64 {
	return (a + uint64(p) - b) % uint64(p)
}

// inverse returns the power of a number with the exponent p - 2, which is its inverse by Fermat's theorem.
func (p residues) inverse(a uint64) uint64 {
	power := uint64(1)
	for exponent := uint64(p) - 2; exponent > 0; exponent >>= 1 {
		if exponent&1 == 1 {
			power = p.times(power, a)
		}
		a = p.times(a, a)
	}
	return power
}

// of returns the remainder of an integer, from 0 to p - 1.
func (p residues) of(a integer) uint64 {
	rest := a.size.restByWord(uint64(p))
	if a.negative {
		return p.minus(0, rest)
	}
	return rest
}

// images returns the remainders of fractions, or false if the prime divides a denominator.
func (p residues) images(rows [][]fraction) ([][]uint64, bool) {
	out := make([][]uint64, len(rows))
	for i, row := range rows {
		out[i] = make([]uint64, len(row))
		for j, f := range row {
			den := f.den.restByWord(uint64(p))
			if den == 0 {
				return nil, false
			}
			out[i][j] = p.times(p.of(f.num), p.inverse(den))
		}
	}
	return out, true
}

// product returns the product of a square of remainders and a list of integers.
func (p residues) product(square [][]uint64, list []integer) []uint64 {
	remainders := make([]uint64, len(list))
	for i, a := range list {
		remainders[i] = p.of(a)
	}
	out := make([]uint64, len(square))
	for i, row := range square {
		for j, a := range row {
			out[i] = (out[i] + p.times(a, remainders[j])) % uint64(p)
		}
	}
	return out
}

const primeBits = 30 // each of the primes is above 2 to the power of this

// primes yields the primes from 2 to the power of 31 down to that of primeBits.
func primes() iter.Seq[uint64] {
	return func(yield func(uint64) bool) {
		for n := uint64(mersenne); n > 1<<primeBits; n -= 2 {
			// the first one is known, and often the only one that is needed
			if (n == mersenne || isPrime(n)) && !yield(n) {
				return
			}
		}
	}
}

// isPrime reports whether an odd number above 1 is a prime.
func isPrime(n uint64) bool {
	for d := uint64(3); d*d <= n; d += 2 {
		if n%d == 0 {
			return false
		}
	}
	return true
}
