package score

import (
	"slices"

	"stadion/api"
)

const didNotStart = "DNS"

// combinationError returns the first error of a combination, or OK.
func combinationError(l []Scale) api.Errno {
	events := names{}
	return first(
		when(len(l) == 0, api.ErrEmpty),
		listError(l, api.MaxLanes, func(_ int, s Scale) api.Errno {
			return first(CheckScale(s), events.twiceError(s.Event))
		}))
}

// cardError returns the first error of a card for a combination, or OK.
func cardError(l []Scale, c Card) api.Errno {
	if e := first(nameError(c.Athlete), when(len(c.Marks) != len(l), api.ErrShape)); e != api.OK {
		return e
	}
	return firstOf(c.Marks, func(i int, m api.Mark) api.Errno { return l[i].markError(m) })
}

// CheckCards returns the first error of a combination and cards, or OK.
func CheckCards(l []Scale, c []Card) api.Errno {
	athletes := names{}
	return first(
		combinationError(l),
		listError(c, api.MaxAthletes, func(_ int, x Card) api.Errno {
			return first(cardError(l, x), athletes.twiceError(x.Athlete))
		}))
}

// Series returns the points of the marks of a card.
func Series(l []Scale, c Card) ([]int, api.Errno) {
	if e := first(combinationError(l), cardError(l, c)); e != api.OK {
		return nil, e
	}
	return series(l, c), api.OK
}

func series(l []Scale, c Card) []int {
	var points []int
	for i, s := range l {
		points = append(points, s.points(c.Marks[i]))
	}
	return points
}

// Totals returns the totals of cards.
func Totals(l []Scale, c []Card) ([]int, api.Errno) {
	return ofCards(l, c, func(x Card) int { return sum(series(l, x)) })
}

// Rank returns the ranks of cards.
func Rank(l []Scale, c []Card) ([]int, api.Errno) {
	strengths, e := ofCards(l, c, func(x Card) []int { return strength(l, x) })
	return ranks(strengths), e
}

// ofCards returns what follows from each of some cards.
func ofCards[T any](l []Scale, c []Card, result func(x Card) T) ([]T, api.Errno) {
	if e := CheckCards(l, c); e != api.OK {
		return nil, e
	}
	return each(c, result), api.OK
}

// strength returns what makes an athlete ahead: the total and then the points, the greatest ones first; nothing for one who has retired.
func strength(l []Scale, c Card) []int {
	if slices.ContainsFunc(c.Marks, func(m api.Mark) bool { return m.Reason == didNotStart }) {
		return nil
	}
	points := series(l, c)
	return append([]int{sum(points)}, descending(points)...)
}
