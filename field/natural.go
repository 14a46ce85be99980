package field

import (
	"sort"
	"strconv"
)

// natural is a number from 0 on of any length: its parts of nine digits, the lowest one first.
//
// The square of a tangent may have more digits than a number of package mark. Therefore lengths are found with these.
type natural []int

const (
	partDigits = 9
	partBound  = 1000000000
)

func naturalOf(digits string) natural {
	var n natural
	for end := len(digits); end > 0; end -= partDigits {
		part, _ := strconv.Atoi(digits[max(end-partDigits, 0):end])
		n = append(n, part)
	}
	return n
}

// square returns the square of an integer.
func square(n int) natural {
	a := naturalOf(strconv.Itoa(max(n, -n)))
	return a.times(a)
}

// part returns one of the parts, which is 0 behind the last one.
func (a natural) part(i int) int {
	if i < len(a) {
		return a[i]
	}
	return 0
}

func (a natural) times(b natural) natural {
	product := make(natural, len(a)+len(b))
	for i, x := range a {
		carry := 0
		for j, y := range b {
			carry += product[i+j] + x*y
			product[i+j] = carry % partBound
			carry /= partBound
		}
		product[i+len(b)] = carry
	}
	return product
}

func (a natural) plus(b natural) natural {
	var sum natural
	carry := 0
	for i := range max(len(a), len(b)) + 1 {
		carry += a.part(i) + b.part(i)
		sum = append(sum, carry%partBound)
		carry /= partBound
	}
	return sum
}

func (a natural) isAbove(b natural) bool {
	for i := max(len(a), len(b)) - 1; i >= 0; i-- {
		if a.part(i) != b.part(i) {
			return a.part(i) > b.part(i)
		}
	}
	return false
}

// rootOfQuotient returns the integer part of the root of a quotient, if it is below a bound.
func rootOfQuotient(num, den natural, bound int) int {
	return sort.Search(bound, func(root int) bool { return square(root + 1).times(den).isAbove(num) })
}
