package field

import (
	"slices"

	"stadion/api"
)

// tally is what athletes are ranked by over heights: the number of the greatest height that was cleared (from 1 on, 0 if there is none), and the failures there and up to it, both with a minus sign.
type tally [3]int

func tallyOf(c Card) tally {
	var t tally
	all := 0
	for i, text := range c.Heights {
		failed, end := split(text)
		all += failed
		if end == clearance {
			t = tally{i + 1, -failed, -all}
		}
	}
	return t
}

func (t tally) compare(u tally) int {
	return slices.Compare(t[:], u[:])
}

// bestTally returns the tally of those who are first.
func bestTally(l []Card) tally {
	return slices.MaxFunc(each(l, tallyOf), tally.compare)
}

// isFirst reports whether an athlete has a clearance and the best tally.
func isFirst(c Card, best tally) bool {
	t := tallyOf(c)
	return t[0] > 0 && t == best
}

// compareOff returns 1 if an athlete is better than another one by the jump-off, or by not having retired.
func compareOff(a, b Card) int {
	if order := slices.CompareFunc(a.Off, b.Off, compareAttempts); order != 0 {
		return order
	}
	switch {
	case a.Retired == b.Retired:
		return 0
	case b.Retired:
		return 1
	}
	return -1
}

// compareAttempts returns 1 for a clearance and a failure.
func compareAttempts(a, b string) int {
	switch {
	case a == b:
		return 0
	case a == string(clearance):
		return 1
	}
	return -1
}

// CheckCards returns the first error of cards, or OK.
func CheckCards(v Vertical, l []Card) api.Errno {
	return first(
		CheckVertical(v),
		when(len(l) != len(v.Athletes), api.ErrShape),
		firstOf(l, func(place int, c Card) api.Errno { return cardError(v, place, c) }))
}

// cardError returns the error of a card at a place.
func cardError(v Vertical, place int, c Card) api.Errno {
	if place >= len(v.Athletes) || c.Athlete != v.Athletes[place] {
		return api.ErrUnknown
	}
	return first(formError(c), when(len(c.Heights) > len(v.Heights), api.ErrMany))
}

func cardMark(v Vertical, c Card) api.Mark {
	if t := tallyOf(c); t[0] > 0 {
		return api.Mark{Kind: kindLength, Value: v.Heights[t[0]-1]}
	}
	return noMark(len(c.Heights) > 0 || !c.Retired)
}

// Standing returns the places of cards.
func Standing(v Vertical, l []Card) ([]Place, api.Errno) {
	if e := CheckCards(v, l); e != api.OK {
		return nil, e
	}
	best := bestTally(l)
	better := func(i, j int) bool {
		order := tallyOf(l[i]).compare(tallyOf(l[j]))
		return order > 0 || order == 0 && isFirst(l[i], best) && compareOff(l[i], l[j]) > 0
	}
	var places []Place
	for i, rank := range ranks(len(l), func(i int) bool { return tallyOf(l[i])[0] > 0 }, better) {
		places = append(places, Place{Athlete: l[i].Athlete, Rank: rank, Mark: cardMark(v, l[i])})
	}
	return arranged(places), api.OK
}

// OffHeights returns the heights of the rounds of a jump-off.
func OffHeights(v Vertical, l []Card) ([]int, api.Errno) {
	if e := CheckCards(v, l); e != api.OK {
		return nil, e
	}
	rounds := slices.Max(each(l, func(c Card) int { return len(c.Off) }))
	if rounds == 0 || bestTally(l)[0] == 0 {
		return nil, api.ErrNone
	}
	return offHeights(v, l, rounds), api.OK
}

// offHeights returns the heights of so many rounds, if somebody has cleared a height.
func offHeights(v Vertical, l []Card, rounds int) []int {
	height := v.Heights[bestTally(l)[0]-1] + v.Step
	heights := []int{height}
	for round := range rounds - 1 {
		if anyCleared(l, round) {
			height += v.Step
		} else {
			height = max(height-v.Step, v.Step)
		}
		heights = append(heights, height)
	}
	return heights
}

func anyCleared(l []Card, round int) bool {
	return slices.ContainsFunc(l, func(c Card) bool { return hasCleared(c, round) })
}

// hasCleared reports whether an athlete has cleared the height of a round of the jump-off.
func hasCleared(c Card, round int) bool {
	return round < len(c.Off) && c.Off[round] == string(clearance)
}
