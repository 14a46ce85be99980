package field

import (
	"sort"
	"strconv"

	"stadion/api"
	"stadion/mark"
	"stadion/natural"
)

// farthest is above the distance of a landing from anything.
const farthest = 3 * api.MaxLength

// Throw returns the length of a throw by the readings of an instrument.
//
// With the tangent p / q the square of the distance is (q q (c - l) (c - l) + p p (c + l) (c + l)) / (q q + p p).
func Throw(centre, landing int, tangent api.Rat, radius int) (int, api.Errno) {
	e := first(
		rangeError(centre, 1, api.MaxLength),
		rangeError(landing, 1, api.MaxLength),
		mark.Check(tangent),
		when(compare(tangent, "0") < 0, api.ErrRange),
		rangeError(radius, 0, api.MaxLength))
	if e != api.OK {
		return 0, e
	}
	p, q := squares(tangent)
	num := q.Times(square(centre - landing)).Plus(p.Times(square(centre + landing)))
	return max(rootOfQuotient(num, q.Plus(p), farthest)-radius, 0), api.OK
}

// squares returns the squares of the numerator and of the denominator of a number that is not negative.
func squares(x api.Rat) (natural.Number, natural.Number) {
	p, q := natural.Fraction(x)
	return p.Times(p), q.Times(q)
}

// square returns the square of an integer.
func square(n int) natural.Number {
	a := natural.Of(strconv.Itoa(max(n, -n)))
	return a.Times(a)
}

// rootOfQuotient returns the integer part of the root of a quotient, if it is below a bound.
func rootOfQuotient(num, den natural.Number, bound int) int {
	return sort.Search(bound, func(root int) bool { return square(root + 1).Times(den).IsAbove(num) })
}

// Leap returns the length of a jump from a board.
func Leap(a, b, landing [2]int) (int, api.Errno) {
	e := first(pointError(a), pointError(b), pointError(landing), when(a == b, api.ErrZero))
	if e != api.OK {
		return 0, e
	}
	x, y := b[0]-a[0], b[1]-a[1]
	area := x*(landing[1]-a[1]) - y*(landing[0]-a[0])
	return rootOfQuotient(square(area), square(x).Plus(square(y)), farthest), api.OK
}

// InSector reports whether a landing is between the lines of a sector.
func InSector(landing [2]int, slope api.Rat) (bool, api.Errno) {
	e := first(pointError(landing), mark.Check(slope), when(compare(slope, "0") <= 0, api.ErrRange))
	if e != api.OK {
		return false, e
	}
	x, y := landing[0], landing[1]
	if y <= 0 {
		return false, api.OK
	}
	line, _ := mark.Of(max(x, -x), y)
	return compare(line, slope) < 0, api.OK
}

func pointError(p [2]int) api.Errno {
	return first(rangeError(p[0], -api.MaxLength, api.MaxLength), rangeError(p[1], -api.MaxLength, api.MaxLength))
}

// compare returns -1, 0 or 1 for two numbers.
func compare(a, b api.Rat) int {
	order, _ := mark.Order(a, b)
	return order
}
