package finish

import (
	"cmp"
	"slices"

	"stadion/api"
)

// Result returns the places and marks of an image.
func Result(x Image, c Clock, class string) ([]Line, api.Errno) {
	if e := first(CheckImage(x), CheckClock(c), classError(class)); e != api.OK {
		return nil, e
	}
	var lines []Line
	for i, at := range firstColumns(x) {
		if at == nowhere {
			continue
		}
		m, e := officialMark(roundedBeginning(c, at+1), class)
		if e != api.OK {
			return nil, e
		}
		lines = append(lines, Line{Athlete: string(letterOf(i)), Mark: m})
	}
	// A stable sort leaves those with equal marks in the order of their letters.
	slices.SortStableFunc(lines, func(a, b Line) int {
		return cmp.Compare(a.Mark.Value, b.Mark.Value)
	})
	for i := range lines {
		lines[i].Place = i + 1
		if i > 0 && lines[i].Mark == lines[i-1].Mark {
			lines[i].Place = lines[i-1].Place
		}
	}
	return lines, api.OK
}
