package mark

import (
	"cmp"
	"math"
	"math/bits"
	"slices"
	"strconv"
	"strings"
)

// natural is a natural number: its words from the lowest one on, the last one not 0. Its words are never changed.
type natural []uint64

const (
	chunkDigits = 19                   // decimal digits that fit into a word
	chunkSize   = 10000000000000000000 // 10 to the power of chunkDigits
)

func trim(words []uint64) natural {
	for len(words) > 0 && words[len(words)-1] == 0 {
		words = words[:len(words)-1]
	}
	return words
}

func fromWord(w uint64) natural {
	return trim([]uint64{w})
}

func powerOfTwo(exponent int) natural {
	n := make(natural, exponent/64+1)
	n[exponent/64] = 1 << (exponent % 64)
	return n
}

// fromDigits reads decimal digits.
func fromDigits(digits string) natural {
	var n natural
	for len(digits) > 0 {
		size := (len(digits)-1)%chunkDigits + 1
		chunk, _ := strconv.ParseUint(digits[:size], 10, 64)
		n = n.times(fromWord(chunkSize)).plus(fromWord(chunk))
		digits = digits[size:]
	}
	return n
}

// digits returns the decimal digits, without zeros in front.
func (n natural) digits() string {
	if len(n) == 0 {
		return "0"
	}
	var chunks []string
	for len(n) > 0 {
		var chunk uint64
		n, chunk = n.divideByWord(chunkSize)
		chunks = append(chunks, padded(chunk, chunkDigits))
	}
	slices.Reverse(chunks)
	return strings.TrimLeft(strings.Join(chunks, ""), "0")
}

// padded returns the decimal digits of a number with zeros in front up to a width.
func padded(n uint64, width int) string {
	digits := strconv.FormatUint(n, 10)
	return strings.Repeat("0", max(0, width-len(digits))) + digits
}

func (n natural) isOne() bool {
	return len(n) == 1 && n[0] == 1
}

// bitLength returns the least b for which the number is below 2 to the power of b.
func (n natural) bitLength() int {
	if len(n) == 0 {
		return 0
	}
	return 64*(len(n)-1) + bits.Len64(n[len(n)-1])
}

func (n natural) compare(m natural) int {
	if len(n) != len(m) {
		return cmp.Compare(len(n), len(m))
	}
	for i := len(n) - 1; i >= 0; i-- {
		if n[i] != m[i] {
			return cmp.Compare(n[i], m[i])
		}
	}
	return 0
}

func (n natural) plus(m natural) natural {
	if len(n) < len(m) {
		n, m = m, n
	}
	sum := make([]uint64, len(n)+1)
	copy(sum, n)
	addTo(sum, m)
	return trim(sum)
}

// minus subtracts a number that is not greater.
func (n natural) minus(m natural) natural {
	difference := slices.Clone(n)
	subtractMultiple(difference, m, 1)
	return trim(difference)
}

func (n natural) times(m natural) natural {
	product := make([]uint64, len(n)+len(m))
	for i, a := range n {
		var carry uint64
		for j, b := range m {
			product[i+j], carry = multiplyAdd(a, b, product[i+j], carry)
		}
		product[i+len(m)] = carry
	}
	return trim(product)
}

// multiplyAdd returns the low and the high word of a b + c + d, which fits into both.
func multiplyAdd(a, b, c, d uint64) (low, high uint64) {
	high, low = bits.Mul64(a, b)
	low, carry := bits.Add64(low, c, 0)
	high += carry
	low, carry = bits.Add64(low, d, 0)
	return low, high + carry
}

// divide returns the quotient and the remainder of a division by a number that is not 0.
func (n natural) divide(m natural) (quotient, rest natural) {
	if n.compare(m) < 0 {
		return nil, n
	}
	if len(m) == 1 {
		q, r := n.divideByWord(m[0])
		return q, fromWord(r)
	}
	// The quotient's words are estimated well only if the highest bit of the divisor is set.
	shift := bits.LeadingZeros64(m[len(m)-1])
	left, by := shiftLeft(n, shift), shiftLeft(m, shift)[:len(m)]
	words := make([]uint64, len(n)-len(m)+1)
	for at := len(words) - 1; at >= 0; at-- {
		words[at] = divideStep(left[at:at+len(by)+1], by)
	}
	return trim(words), trim(shiftRight(left, shift))
}

func (n natural) divideByWord(w uint64) (natural, uint64) {
	quotient := make([]uint64, len(n))
	var rest uint64
	for i := len(n) - 1; i >= 0; i-- {
		quotient[i], rest = bits.Div64(rest, n[i], w)
	}
	return trim(quotient), rest
}

func (n natural) restByWord(w uint64) uint64 {
	var rest uint64
	for i := len(n) - 1; i >= 0; i-- {
		_, rest = bits.Div64(rest, n[i], w)
	}
	return rest
}

// divideStep reduces left, which has one word more than by, to its remainder, and returns the word of the quotient.
func divideStep(left, by []uint64) uint64 {
	top := len(by)
	guess := uint64(math.MaxUint64)
	if left[top] < by[top-1] {
		guess, _ = bits.Div64(left[top], left[top-1], by[top-1])
	}
	// The guess is never too small, and at most 2 too large.
	for negative := subtractMultiple(left, by, guess); negative; guess-- {
		negative = !addTo(left, by)
	}
	return guess
}

// addTo adds words to a list that is not shorter, and reports whether the sum has outgrown it.
func addTo(sum, words []uint64) bool {
	var carry uint64
	for i := range sum {
		var w uint64
		if i < len(words) {
			w = words[i]
		}
		sum[i], carry = bits.Add64(sum[i], w, carry)
	}
	return carry == 1
}

// subtractMultiple subtracts a multiple of words from a list that is not shorter, and reports whether the difference is negative.
func subtractMultiple(left, words []uint64, factor uint64) bool {
	var carry, borrow uint64
	for i := range left {
		var w uint64
		if i < len(words) {
			w = words[i]
		}
		var low uint64
		low, carry = multiplyAdd(w, factor, carry, 0)
		left[i], borrow = bits.Sub64(left[i], low, borrow)
	}
	return borrow == 1
}

// shiftLeft shifts words by less than 64 bits into a list that has one word more.
func shiftLeft(words []uint64, shift int) []uint64 {
	out := make([]uint64, len(words)+1)
	for i, w := range words {
		out[i] |= w << shift
		out[i+1] = w >> (64 - shift)
	}
	return out
}

// shiftRight shifts words by less than 64 bits.
func shiftRight(words []uint64, shift int) []uint64 {
	out := make([]uint64, len(words))
	for i, w := range words {
		out[i] |= w >> shift
		if i > 0 {
			out[i-1] |= w << (64 - shift)
		}
	}
	return out
}

// divisor returns the greatest common divisor of two numbers; that of 0 and another one is the other one.
func divisor(a, b natural) natural {
	for len(b) > 0 {
		if len(a) == 1 && len(b) == 1 {
			return fromWord(wordDivisor(a[0], b[0]))
		}
		_, rest := a.divide(b)
		a, b = b, rest
	}
	return a
}

func wordDivisor(a, b uint64) uint64 {
	for b > 0 {
		a, b = b, a%b
	}
	return a
}

// multiple returns the least common multiple of two numbers above 0.
func multiple(a, b natural) natural {
	part, _ := b.divide(divisor(a, b))
	return a.times(part)
}
