package finish

import (
	"slices"

	"stadion/api"
	"stadion/mark"
)

// Reading returns the span of the time of an athlete.
func Reading(x Image, c Clock, athlete string) (api.Span, api.Errno) {
	if e := first(CheckImage(x), CheckClock(c)); e != api.OK {
		return api.Span{}, e
	}
	column, e := First(x, athlete)
	if e != api.OK {
		return api.Span{}, e
	}
	low, errorOfLow := Begins(c, column)
	high, errorOfHigh := Begins(c, column+1)
	tooLate := when(compare(high, integer(api.MaxTime)) > 0, api.ErrLarge)
	if e := first(errorOfLow, errorOfHigh, tooLate); e != api.OK {
		return api.Span{}, e
	}
	return api.Span{Low: low, High: high}, api.OK
}

// Official returns the mark of a reading.
func Official(s api.Span, class string) (api.Mark, api.Errno) {
	if e := first(spanError(s), classError(class)); e != api.OK {
		return api.Mark{}, e
	}
	end, left := split(s.High)
	if left != "0" {
		end++
	}
	return officialMark(end, class)
}

func spanError(s api.Span) api.Errno {
	return first(
		mark.Check(s.Low),
		mark.Check(s.High),
		when(compare(s.Low, s.High) > 0, api.ErrOrder),
		when(compare(s.Low, "0") < 0 || compare(s.High, "0") <= 0 || compare(s.High, integer(api.MaxTime)) > 0, api.ErrRange),
	)
}

// officialMark returns the mark of a reading whose end, rounded upwards, is an integer above 0.
func officialMark(end int, class string) (api.Mark, api.Errno) {
	if end > api.MaxTime {
		return api.Mark{}, api.ErrLarge
	}
	return mark.Round(api.Mark{Kind: kindTime, Value: end}, class)
}

// Separated returns which one of two readings is earlier.
func Separated(a, b api.Span) (int, api.Errno) {
	if e := first(spanError(a), spanError(b)); e != api.OK {
		return 0, e
	}
	l := readings(a, b)
	return l[0].separated(l[1]), api.OK
}

// Ties returns the pairs of readings that are not separated.
func Ties(l []api.Span) ([][2]int, api.Errno) {
	if e := listError(l, api.MaxList, spanError); e != api.OK {
		return nil, e
	}
	all := readings(l...)
	var ties [][2]int
	for i, a := range all {
		for j := i + 1; j < len(all); j++ {
			if a.separated(all[j]) == 0 {
				ties = append(ties, [2]int{i, j})
			}
		}
	}
	return ties, api.OK
}

// reading is a reading whose ends are replaced by their places in the order of all ends, so that long numbers are compared when they are sorted and never again.
type reading struct {
	low  int
	high int
}

func readings(l ...api.Span) []reading {
	var ends []api.Rat
	for _, s := range l {
		ends = append(ends, s.Low, s.High)
	}
	slices.SortFunc(ends, compare)
	places := map[api.Rat]int{}
	for i, end := range slices.Compact(ends) {
		places[end] = i
	}
	all := make([]reading, len(l))
	for i, s := range l {
		all[i] = reading{places[s.Low], places[s.High]}
	}
	return all
}

// separated returns -1 if a is earlier, 1 if b is earlier, 0 if they are not separated.
func (a reading) separated(b reading) int {
	switch {
	case a == b:
		return 0
	case a.high <= b.low:
		return -1
	case b.high <= a.low:
		return 1
	}
	return 0
}
