package field

import (
	"strings"

	"stadion/api"
	"stadion/mark"
)

// farthest is above the distance of a landing from anything.
const farthest = 3 * api.MaxLength

// Throw returns the length of a throw by the readings of an instrument.
//
// With the tangent p / q the square of the distance is (q q (c - l) (c - l) + p p (c + l) (c + l)) / (q q + p p).
func Throw(centre, landing int, tangent api.Rat, radius int) (int, api.Errno) {
	e := first(
		rangeError(centre, 1, api.MaxLength),
		rangeError(landing, 1, api.MaxLength),
		mark.Check(tangent),
		when(compare(tangent, "0") < 0, api.ErrRange),
		rangeError(radius, 0, api.MaxLength))
	if e != api.OK {
		return 0, e
	}
	p, q := squares(tangent)
	num := q.times(square(centre - landing)).plus(p.times(square(centre + landing)))
	return max(rootOfQuotient(num, q.plus(p), farthest)-radius, 0), api.OK
}

// squares returns the squares of the numerator and of the denominator of a number that is not negative.
func squares(x api.Rat) (natural, natural) {
	num, den, found := strings.Cut(string(x), "/")
	if !found {
		den = "1"
	}
	p, q := naturalOf(num), naturalOf(den)
	return p.times(p), q.times(q)
}

// Leap returns the length of a jump from a board.
func Leap(a, b, landing [2]int) (int, api.Errno) {
	e := first(pointError(a), pointError(b), pointError(landing), when(a == b, api.ErrZero))
	if e != api.OK {
		return 0, e
	}
	x, y := b[0]-a[0], b[1]-a[1]
	area := x*(landing[1]-a[1]) - y*(landing[0]-a[0])
	return rootOfQuotient(square(area), square(x).plus(square(y)), farthest), api.OK
}

// InSector reports whether a landing is between the lines of a sector.
func InSector(landing [2]int, slope api.Rat) (bool, api.Errno) {
	e := first(pointError(landing), mark.Check(slope), when(compare(slope, "0") <= 0, api.ErrRange))
	if e != api.OK {
		return false, e
	}
	x, y := landing[0], landing[1]
	if y <= 0 {
		return false, api.OK
	}
	line, _ := mark.Of(max(x, -x), y)
	return compare(line, slope) < 0, api.OK
}

func pointError(p [2]int) api.Errno {
	return first(rangeError(p[0], -api.MaxLength, api.MaxLength), rangeError(p[1], -api.MaxLength, api.MaxLength))
}

// compare returns -1, 0 or 1 for two numbers.
func compare(a, b api.Rat) int {
	order, _ := mark.Order(a, b)
	return order
}
