package score

import (
	"cmp"
	"slices"

	"stadion/api"
	"stadion/mark"
)

// CheckLines returns the first error of lines, or OK.
func CheckLines(l []Line) api.Errno {
	athletes, common := names{}, kindNone
	return listError(l, api.MaxAthletes, func(_ int, x Line) api.Errno {
		e := first(
			nameError(x.Athlete),
			nameError(x.Club),
			athletes.twiceError(x.Athlete),
			mark.CheckMark(x.Mark),
			when(x.Mark.Kind != kindNone && common != kindNone && x.Mark.Kind != common, api.ErrKind))
		if x.Mark.Kind != kindNone {
			common = x.Mark.Kind
		}
		return e
	})
}

func tariffError(tariff []int) api.Errno {
	return listError(tariff, api.MaxAthletes, func(i, points int) api.Errno {
		return first(pointsError(points), when(i > 0 && points > tariff[i-1], api.ErrOrder))
	})
}

// Award returns the points of clubs in an event.
func Award(l []Line, tariff []int, scorers int) ([]Club, api.Errno) {
	if e := first(CheckLines(l), tariffError(tariff), rangeError(scorers, 1, api.MaxAthletes)); e != api.OK {
		return nil, e
	}
	points := map[string][]api.Rat{}
	for i, x := range pointsOfLines(l, tariff) {
		points[l[i].Club] = append(points[l[i].Club], x)
	}
	return clubs(points, scorers)
}

// pointsOfLines returns the points of each line by a tariff.
func pointsOfLines(l []Line, tariff []int) []api.Rat {
	all, _ := mark.Ranks(each(l, func(x Line) api.Mark { return x.Mark }))
	sharing := map[int]int{}
	for _, rank := range all {
		sharing[rank]++
	}
	return each(all, func(rank int) api.Rat {
		if rank == 0 {
			return "0"
		}
		from, to := min(rank-1, len(tariff)), min(rank-1+sharing[rank], len(tariff))
		points, _ := mark.Of(sum(tariff[from:to]), sharing[rank])
		return points
	})
}

// greaterFirst compares two numbers for a descending order.
func greaterFirst(a, b api.Rat) int {
	order, _ := mark.Order(b, a)
	return order
}

// clubs returns clubs with the sums of their greatest points, as many as may score, those with more points first.
func clubs(points map[string][]api.Rat, scorers int) ([]Club, api.Errno) {
	var l []Club
	for name, list := range points {
		slices.SortFunc(list, greaterFirst)
		x, e := total(list[:min(len(list), scorers)])
		if e != api.OK {
			return nil, e
		}
		l = append(l, Club{name, x})
	}
	slices.SortFunc(l, func(a, b Club) int {
		return cmp.Or(greaterFirst(a.Points, b.Points), cmp.Compare(a.Name, b.Name))
	})
	return l, api.OK
}

// clubsError returns the first error of clubs with their points, or OK.
func clubsError(_ int, l []Club) api.Errno {
	there := names{}
	return listError(l, api.MaxList, func(_ int, c Club) api.Errno {
		order, e := mark.Order(c.Points, "0")
		return first(nameError(c.Name), there.twiceError(c.Name), e, when(order < 0, api.ErrRange))
	})
}

// League returns the sums of the points of clubs.
func League(l [][]Club) ([]Club, api.Errno) {
	if e := listError(l, api.MaxList, clubsError); e != api.OK {
		return nil, e
	}
	points := map[string][]api.Rat{}
	for _, list := range l {
		for _, c := range list {
			points[c.Name] = append(points[c.Name], c.Points)
		}
	}
	return clubs(points, len(l))
}
