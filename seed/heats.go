package seed

import (
	"slices"

	"stadion/api"
)

// Zigzag returns the ranks of each heat.
func Zigzag(n, heats int) ([][]int, api.Errno) {
	if e := first(athletesError(n), heatsError(heats)); e != api.OK {
		return nil, e
	}
	l := make([][]int, heats)
	for rank := range n {
		heat := zigzagHeat(rank, heats)
		l[heat] = append(l[heat], rank)
	}
	return l, api.OK
}

// heatsError returns the error of a number of heats.
func heatsError(heats int) api.Errno {
	return rangeError(heats, 1, api.MaxHeats)
}

func zigzagHeat(rank, heats int) int {
	group, place := rank/heats, rank%heats
	if group%2 == 1 {
		return heats - 1 - place
	}
	return place
}

// Heats returns the numbers of the entrants of each heat.
func Heats(l []Entrant, heats, key int) ([][]int, api.Errno) {
	order, e := orderInHeats(l, heats, key)
	if e != api.OK {
		return nil, e
	}
	ranks, e := Zigzag(len(l), heats)
	for _, heat := range ranks {
		for i, rank := range heat {
			heat[i] = order[rank]
		}
	}
	return ranks, e
}

// orderInHeats returns the order of entrants for a number of heats.
func orderInHeats(l []Entrant, heats, key int) ([]int, api.Errno) {
	if e := first(CheckEntrants(l), heatsError(heats)); e != api.OK {
		return nil, e
	}
	return Order(l, key)
}

// CheckHeats returns the first error of heats, or OK.
func CheckHeats(l []Entrant, key int, heats [][]int) api.Errno {
	order, e := Order(l, key)
	if e := first(e, entrantsError(len(l), heats)); e != api.OK {
		return e
	}
	return when(!areRanked(order, heats), api.ErrConflict)
}

// entrantsError returns the first error of the heats of as many entrants, or OK.
func entrantsError(entrants int, heats [][]int) api.Errno {
	if e := first(when(len(heats) == 0, api.ErrEmpty), when(len(heats) > api.MaxHeats, api.ErrMany)); e != api.OK {
		return e
	}
	there := make([]bool, entrants)
	for _, x := range all(heats) {
		switch {
		case x < 0 || x >= entrants:
			return api.ErrUnknown
		case there[x]:
			return api.ErrTwice
		}
		there[x] = true
	}
	return when(slices.Contains(there, false), api.ErrNone)
}

// areRanked reports whether no heat has two entrants of one ranked group.
func areRanked(order []int, heats [][]int) bool {
	groups := make([]int, len(order))
	for rank, x := range order {
		groups[x] = rank / len(heats)
	}
	type seat struct{ heat, group int }
	taken := map[seat]bool{}
	for heat, x := range all(heats) {
		s := seat{heat, groups[x]}
		if taken[s] {
			return false
		}
		taken[s] = true
	}
	return true
}
