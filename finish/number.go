package finish

import (
	"strconv"

	"stadion/api"
	"stadion/mark"
)

func integer(n int) api.Rat {
	return fraction(n, 1)
}

// fraction returns the quotient of two integers, the second of which is not 0.
func fraction(a, b int) api.Rat {
	x, _ := mark.Of(a, b)
	return x
}

// compare returns -1, 0 or 1 for two numbers.
func compare(a, b api.Rat) int {
	order, _ := mark.Order(a, b)
	return order
}

// combined returns a + n b for two numbers.
//
// It may be a number also where n b has too many digits for one. Therefore it is computed at once, as the second part of the solution of two equations whose first part is b.
func combined(a, b api.Rat, n int) (api.Rat, api.Errno) {
	x, e := mark.Solve([][]api.Rat{{"1", "0"}, {integer(-n), "1"}}, []api.Rat{b, a})
	if e != api.OK {
		return "", e
	}
	return x[1], api.OK
}

// split returns the integer part of a number from 0 to MaxTime, and what is left of it.
func split(x api.Rat) (int, api.Rat) {
	floor, _ := mark.Floor(x)
	whole, _ := strconv.Atoi(string(floor))
	left, _ := mark.Sub(x, floor)
	return whole, left
}
