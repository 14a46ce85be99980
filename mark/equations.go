package mark

import (
	"strings"

	"stadion/api"
)

// Elimination with fractions would make numbers of several hundred thousand digits, also where
// the solution is short. Therefore the equations are solved modulo a prime, the solution is
// lifted digit by digit to a power of this prime that determines each number of at most
// MaxDigits digits, and tested.

// equations are linear equations with integers.
type equations struct {
	left  [][]integer
	right []integer
}

// Solve returns the only solution of equations.
func Solve(m [][]api.Rat, b []api.Rat) ([]api.Rat, api.Errno) {
	rows, e := readEquations(m, b)
	if e != api.OK {
		return nil, e
	}
	s := wholeEquations(rows)
	p, found := regularPrime(rows, s.determinantBits())
	if !found {
		return nil, api.ErrSingular
	}
	bound := s.bound()
	x, modulus := s.lift(p, bound)
	solution := make([]fraction, len(x))
	for i, image := range x {
		solution[i] = reconstruct(image, modulus, bound)
	}
	// If a number of the solution is beyond the bound, what is found may be something else.
	if !s.solvedBy(solution) {
		return nil, api.ErrLarge
	}
	return convert(solution, write)
}

// readEquations returns the rows of the left side, each with its number of the right side behind it.
func readEquations(m [][]api.Rat, b []api.Rat) ([][]fraction, api.Errno) {
	if len(m) == 0 {
		return nil, api.ErrEmpty
	}
	if len(m) > MaxEquations {
		return nil, api.ErrMany
	}
	rows := make([][]fraction, len(m))
	for i, row := range m {
		var e api.Errno
		if rows[i], e = readRow(row, len(m)); e != api.OK {
			return nil, e
		}
	}
	right, e := readRow(b, len(m))
	if e != api.OK {
		return nil, e
	}
	for i := range rows {
		rows[i] = append(rows[i], right[i])
	}
	return rows, api.OK
}

func readRow(row []api.Rat, size int) ([]fraction, api.Errno) {
	if len(row) != size {
		return nil, api.ErrShape
	}
	return convert(row, read)
}

// convert returns what becomes of the elements of a list, or the first error.
func convert[From, To any](list []From, f func(From) (To, api.Errno)) ([]To, api.Errno) {
	out := make([]To, len(list))
	for i, element := range list {
		var e api.Errno
		if out[i], e = f(element); e != api.OK {
			return nil, e
		}
	}
	return out, api.OK
}

// wholeEquations multiplies each equation by the least number that makes integers of its numbers.
func wholeEquations(rows [][]fraction) equations {
	s := equations{make([][]integer, len(rows)), make([]integer, len(rows))}
	for i, row := range rows {
		common := commonDenominator(row)
		for _, f := range row[:len(rows)] {
			s.left[i] = append(s.left[i], scaled(f, common))
		}
		s.right[i] = scaled(row[len(rows)], common)
	}
	return s
}

func commonDenominator(numbers []fraction) natural {
	common := fromWord(1)
	for _, f := range numbers {
		common = multiple(common, f.den)
	}
	return common
}

// scaled returns the product of a fraction and a multiple of its denominator.
func scaled(f fraction, common natural) integer {
	factor, _ := common.divide(f.den)
	return f.num.timesNatural(factor)
}

// regularPrime returns a prime that divides no denominator, and modulo which the left side is not singular, if there is one.
// The determinant of the left side as integers has at most so many bits.
func regularPrime(rows [][]fraction, determinantBits int) (residues, bool) {
	productBits := 0
	for prime := range primes() {
		p := residues(prime)
		images, defined := p.images(rows)
		if !defined {
			continue
		}
		if eliminate(p, images) {
			return p, true
		}
		// The product of these primes divides the determinant, which is 0 if it is less than the product.
		productBits += primeBits
		if productBits >= determinantBits {
			break
		}
	}
	return 0, false
}

// determinantBits returns a number of bits in which each determinant fits that has columns of the left or the right side.
func (s equations) determinantBits() int {
	total := 0
	for i, row := range s.left {
		sum := s.right[i].size
		for _, a := range row {
			sum = sum.plus(a.size)
		}
		total += sum.bitLength()
	}
	return total
}

// inverse returns the inverse of the left side modulo a prime modulo which it is not singular.
func (s equations) inverse(p residues) [][]uint64 {
	rows := make([][]uint64, len(s.left))
	for i, row := range s.left {
		rows[i] = make([]uint64, 2*len(row))
		for j, a := range row {
			rows[i][j] = p.of(a)
		}
		rows[i][len(row)+i] = 1
	}
	eliminate(p, rows)
	for i := range rows {
		rows[i] = rows[i][len(rows):]
	}
	return rows
}

// bound returns a number that no numerator and no denominator of the solution exceeds if the solution is permitted.
func (s equations) bound() natural {
	permitted := fromDigits(strings.Repeat("9", api.MaxDigits))
	if bits := s.determinantBits(); bits < permitted.bitLength() {
		return powerOfTwo(bits) // by Cramer's rule
	}
	return permitted
}

// lift returns the images of the solution modulo a power of the prime, and this power, which is more than twice the square of the bound.
func (s equations) lift(p residues, bound natural) ([]natural, natural) {
	inverse := s.inverse(p)
	x := make([]natural, len(s.left))
	modulus, enough := fromWord(1), bound.times(bound).times(fromWord(2))
	rest := s.right
	for modulus.compare(enough) <= 0 {
		digits := p.product(inverse, rest)
		for i, d := range digits {
			x[i] = x[i].plus(modulus.times(fromWord(d)))
		}
		rest = s.nextRest(rest, digits, p)
		modulus = modulus.times(fromWord(uint64(p)))
	}
	return x, modulus
}

// nextRest returns what the digits leave of the right side, divided by the prime.
func (s equations) nextRest(rest []integer, digits []uint64, p residues) []integer {
	out := make([]integer, len(rest))
	for i, row := range s.left {
		left := rest[i]
		for j, a := range row {
			left = left.minus(a.timesNatural(fromWord(digits[j])))
		}
		size, _ := left.size.divideByWord(uint64(p))
		out[i] = signed(left.negative, size)
	}
	return out
}

// reconstruct returns the fraction with an image modulo a number, if there is one whose numerator and denominator are not above a bound.
// Euclid's algorithm meets it: each remainder is, but for multiples of the modulus, a known multiple of the image.
func reconstruct(image, modulus, bound natural) fraction {
	above, rest := modulus, image
	factorAbove, factor := natural(nil), fromWord(1)
	negative := false
	for rest.compare(bound) > 0 {
		quotient, next := above.divide(rest)
		above, rest = rest, next
		factorAbove, factor = factor, factorAbove.plus(quotient.times(factor))
		negative = !negative
	}
	return lowest(signed(negative, rest), factor)
}

// solvedBy reports whether a list is the solution.
func (s equations) solvedBy(list []fraction) bool {
	common := commonDenominator(list)
	for i, row := range s.left {
		var sum integer
		for j, a := range row {
			sum = sum.plus(a.times(scaled(list[j], common)))
		}
		if sum.minus(s.right[i].timesNatural(common)).sign() != 0 {
			return false
		}
	}
	return true
}
