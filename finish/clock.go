package finish

import (
	"sort"

	"stadion/api"
	"stadion/mark"
)

// CheckClock returns the first error of a clock, or OK.
func CheckClock(c Clock) api.Errno {
	return first(
		mark.Check(c.Start),
		when(compare(c.Start, "0") < 0 || compare(c.Start, integer(api.MaxTime)) > 0, api.ErrRange),
		mark.Check(c.Step),
		when(compare(c.Step, "0") <= 0 || compare(c.Step, integer(api.MaxTime)) > 0, api.ErrRange),
	)
}

// Calibrate returns the clock of some pulses.
func Calibrate(l []Pulse, tolerance int) (Clock, api.Errno) {
	if e := first(pulsesError(l), toleranceError(tolerance)); e != api.OK {
		return Clock{}, e
	}
	if len(l) == 1 {
		return Clock{}, api.ErrSingular
	}
	from, to := l[0], l[len(l)-1]
	columns, time := to.Column-from.Column, to.Time-from.Time
	c := Clock{fraction(from.Time*columns-from.Column*time, columns), fraction(time, columns)}
	_, conflict := firstOf(l, func(p Pulse) api.Errno {
		away := (p.Time-from.Time)*columns - (p.Column-from.Column)*time // as many times as there are columns
		return when(max(away, -away) > tolerance*columns, api.ErrConflict)
	})
	if e := first(CheckClock(c), conflict); e != api.OK {
		return Clock{}, e
	}
	return c, api.OK
}

func pulsesError(l []Pulse) api.Errno {
	before := Pulse{-1, -1}
	return first(when(len(l) == 0, api.ErrEmpty), listError(l, api.MaxList, func(p Pulse) api.Errno {
		e := first(
			columnNumberError(p.Column),
			rangeError(p.Time, 0, api.MaxTime),
			when(p.Column <= before.Column || p.Time <= before.Time, api.ErrOrder),
		)
		before = p
		return e
	}))
}

// columnNumberError returns the error of the number of a column, which need not exist.
func columnNumberError(column int) api.Errno {
	return rangeError(column, 0, api.MaxColumns)
}

// Begins returns when a column begins.
func Begins(c Clock, column int) (api.Rat, api.Errno) {
	if e := first(CheckClock(c), columnNumberError(column)); e != api.OK {
		return "", e
	}
	return combined(c.Start, c.Step, column)
}

// roundedBeginning returns the least integer that is not below the beginning of a column.
//
// The beginning itself may have too many digits for a number. Therefore whole ten-thousandths are taken out of the start and of the steps, and what is left of both, below 1 and with no more digits than the clock has, is compared and not added.
func roundedBeginning(c Clock, column int) int {
	wholeStart, start := split(c.Start)
	wholeStep, step := split(c.Step)
	steps := sort.Search(column, func(k int) bool { return compare(step, fraction(k+1, column)) < 0 })
	left, _ := combined(integer(-steps), step, column)
	more := sort.Search(2, func(n int) bool {
		upTo, _ := mark.Sub(integer(n), left)
		return compare(start, upTo) <= 0
	})
	return wholeStart + column*wholeStep + steps + more
}
