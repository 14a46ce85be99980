// Package natural computes with numbers from 0 on of any length. What is between numbers of package mark, such as the square of one, or the sum of some of several, may have more digits than one of them.
package natural

import (
	"math/bits"
	"slices"
	"strconv"
	"strings"

	"stadion/api"
)

// Number is a number from 0 on: its parts of nine digits, the lowest one first, the highest one not 0. Its parts are never changed.
type Number []int

const (
	partDigits = 9
	partBound  = 1000000000 // 10 to the power of partDigits
)

func trimmed(parts []int) Number {
	for len(parts) > 0 && parts[len(parts)-1] == 0 {
		parts = parts[:len(parts)-1]
	}
	return parts
}

// Of returns the number with some decimal digits.
func Of(digits string) Number {
	var parts []int
	for end := len(digits); end > 0; end -= partDigits {
		part, _ := strconv.Atoi(digits[max(end-partDigits, 0):end])
		parts = append(parts, part)
	}
	return trimmed(parts)
}

// Fraction returns the numerator and the denominator of a rational number from 0 on.
func Fraction(x api.Rat) (num, den Number) {
	above, below, found := strings.Cut(string(x), "/")
	if !found {
		below = "1"
	}
	return Of(above), Of(below)
}

// String returns the decimal digits of a number, without zeros in front.
func (a Number) String() string {
	if len(a) == 0 {
		return "0"
	}
	var digits strings.Builder
	for _, part := range slices.Backward(a) {
		digits.WriteString(strconv.Itoa(partBound + part)[1:]) // with zeros in front
	}
	return strings.TrimLeft(digits.String(), "0")
}

// part returns one of the parts, which is 0 where there is none.
func (a Number) part(i int) int {
	if 0 <= i && i < len(a) {
		return a[i]
	}
	return 0
}

// IsAbove reports whether a number is greater than another one.
func (a Number) IsAbove(b Number) bool {
	for i := max(len(a), len(b)) - 1; i >= 0; i-- {
		if a.part(i) != b.part(i) {
			return a.part(i) > b.part(i)
		}
	}
	return false
}

// Plus returns the sum of two numbers.
func (a Number) Plus(b Number) Number {
	var sum []int
	carry := 0
	for i := range max(len(a), len(b)) + 1 {
		carry += a.part(i) + b.part(i)
		sum = append(sum, carry%partBound)
		carry /= partBound
	}
	return trimmed(sum)
}

// Times returns the product of two numbers.
func (a Number) Times(b Number) Number {
	product := make([]int, len(a)+len(b))
	for i, x := range a {
		carry := 0
		for j, y := range b {
			carry += product[i+j] + x*y
			product[i+j] = carry % partBound
			carry /= partBound
		}
		product[i+len(b)] = carry
	}
	return trimmed(product)
}

// Divide returns the quotient and the rest of a division by a number above 0.
func (a Number) Divide(b Number) (quotient, rest Number) {
	left := append(slices.Clone(a), 0)
	parts := make([]int, max(len(a)-len(b)+1, 0))
	for at := len(parts) - 1; at >= 0; at-- {
		window := left[at : at+len(b)+1]
		for n := estimate(window, b); n > 0; n = estimate(window, b) {
			subtractMultiple(window, b, n)
			parts[at] += n
		}
	}
	return trimmed(parts), trimmed(left)
}

// estimate returns the integer part of the quotient of a number by another one, or a bit less, but 0 only if the number is less. The quotient is below partBound.
func estimate(a, b Number) int {
	top := len(b) - 1
	high, low := bits.Mul64(uint64(a.part(top+1)*partBound+a.part(top)), partBound)
	low, carry := bits.Add64(low, uint64(a.part(top-1)), 0)
	// All that is left out of the divisor is less than 1 in its second part.
	n, _ := bits.Div64(high+carry, low, uint64(b.part(top)*partBound+b.part(top-1)+1))
	if n == 0 && !b.IsAbove(a) {
		return 1
	}
	return int(n)
}

// subtractMultiple subtracts a multiple of a number from parts of which it is not greater.
func subtractMultiple(parts []int, b Number, factor int) {
	carry := 0
	for i := range parts {
		carry += factor * b.part(i)
		parts[i] -= carry % partBound
		carry /= partBound
		if parts[i] < 0 {
			parts[i] += partBound
			carry++
		}
	}
}

// Divisor returns the greatest common divisor of two numbers; that of 0 and another one is the other one.
func Divisor(a, b Number) Number {
	for len(b) > 0 {
		_, rest := a.Divide(b)
		a, b = b, rest
	}
	return a
}
