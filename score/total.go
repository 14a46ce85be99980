package score

import (
	"slices"

	"stadion/api"
	"stadion/mark"
	"stadion/natural"
)

// total returns the sum of numbers from 0 on, or ErrLarge if it has too many digits.
//
// The sum of some of them may have more digits than that of all. Therefore it is found with numbers of any length.
func total(l []api.Rat) (api.Rat, api.Errno) {
	var nums, dens []natural.Number
	common := natural.Of("1")
	for _, x := range l {
		num, den := natural.Fraction(x)
		nums, dens = append(nums, num), append(dens, den)
		common = common.Times(quotient(den, natural.Divisor(common, den)))
	}
	whole := natural.Of("0")
	for i, num := range nums {
		whole = whole.Plus(num.Times(quotient(common, dens[i])))
	}
	return written(reduced(whole, common, dens))
}

func quotient(a, b natural.Number) natural.Number {
	n, _ := a.Divide(b)
	return n
}

// reduced returns a fraction in lowest terms. Its denominator is the least common multiple of some numbers.
//
// The divisors are looked for in each of these numbers alone, as they are much shorter than their multiple.
func reduced(num, den natural.Number, parts []natural.Number) (natural.Number, natural.Number) {
	for _, part := range parts {
		for {
			divisor := natural.Divisor(den, natural.Divisor(num, part))
			if isOne(divisor) {
				break
			}
			num, den = quotient(num, divisor), quotient(den, divisor)
		}
	}
	return num, den
}

func isOne(n natural.Number) bool {
	return slices.Equal(n, natural.Of("1"))
}

// written returns the number of a fraction in lowest terms, or ErrLarge if it has too many digits.
func written(num, den natural.Number) (api.Rat, api.Errno) {
	text := num.String()
	if !isOne(den) {
		text += "/" + den.String()
	}
	x := api.Rat(text)
	if e := mark.Check(x); e != api.OK {
		return "", e
	}
	return x, api.OK
}
