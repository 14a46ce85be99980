package seed

import (
	"slices"

	"stadion/api"
	"stadion/mark"
)

// CheckEntrants returns the first error of entrants, or OK.
func CheckEntrants(l []Entrant) api.Errno {
	if len(l) > api.MaxAthletes {
		return api.ErrMany
	}
	return first(firstOf(l, names{}.entrantError), kindsError(l))
}

func (n names) entrantError(x Entrant) api.Errno {
	return first(n.nameError(x.Name), nameError(x.Club), mark.CheckMark(x.Mark))
}

// kindsError returns the error of two marks of different kinds other than none.
func kindsError(l []Entrant) api.Errno {
	kind := kindNone
	for _, x := range l {
		if x.Mark.Kind == kindNone {
			continue
		}
		if kind != kindNone && kind != x.Mark.Kind {
			return api.ErrKind
		}
		kind = x.Mark.Kind
	}
	return api.OK
}

// Order returns the numbers of entrants, the best one first.
func Order(l []Entrant, key int) ([]int, api.Errno) {
	order, keyError := mark.Draw(key, len(l))
	if e := first(CheckEntrants(l), keyError); e != api.OK {
		return nil, e
	}
	// A stable sort leaves those with equal marks in the order in which they are drawn.
	slices.SortStableFunc(order, func(a, b int) int {
		c, _ := mark.Compare(l[a].Mark, l[b].Mark)
		return c
	})
	return order, api.OK
}
