package track

import (
	"stadion/api"
	"stadion/mark"
)

// The bounds of pi, 333/106 and 22/7, have a common denominator.
const (
	denominator = 106 * 7
	lowPi       = 333 * 7
	highPi      = 22 * 106
)

// length is a length with pi: the first number and the second one times pi.
type length [2]int

func (x length) plus(y length) length {
	return length{x[0] + y[0], x[1] + y[1]}
}

func (x length) minus(y length) length {
	return length{x[0] - y[0], x[1] - y[1]}
}

func (x length) times(n int) length {
	return length{n * x[0], n * x[1]}
}

// with returns the numerator of a length for a bound of pi.
func (x length) with(pi int) int {
	return x[0]*denominator + x[1]*pi
}

func (x length) span() api.Span {
	return spansOver(denominator)(x.with(lowPi), x.with(highPi))
}

// spansOver returns what makes the span between two fractions, in any order, of their numerators.
func spansOver(denominator int) func(a, b int) api.Span {
	return func(a, b int) api.Span {
		return api.Span{Low: fraction(min(a, b), denominator), High: fraction(max(a, b), denominator)}
	}
}

// fraction returns the quotient of two integers, the second of which is not 0.
func fraction(a, b int) api.Rat {
	x, _ := mark.Of(a, b)
	return x
}
