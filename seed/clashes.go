package seed

import (
	"stadion/api"
)

// Clashes returns how many pairs of one club are in one heat.
func Clashes(l []Entrant, heats [][]int) (int, api.Errno) {
	if e := first(CheckEntrants(l), entrantsError(len(l), heats)); e != api.OK {
		return 0, e
	}
	type team struct {
		heat int
		club string
	}
	members := map[team]int{}
	clashes := 0
	for heat, x := range all(heats) {
		t := team{heat, l[x].Club}
		clashes += members[t]
		members[t]++
	}
	return clashes, api.OK
}

// Least returns the least number of pairs of one club in ranked heats.
//
// The clashes of a club are least if it is spread over the heats as evenly as possible. Apart spreads all clubs so, whatever the order is: so no order is needed here.
func Least(l []Entrant, heats int) (int, api.Errno) {
	if e := first(CheckEntrants(l), heatsError(heats)); e != api.OK {
		return 0, e
	}
	members := map[string]int{}
	for _, x := range l {
		members[x.Club]++
	}
	clashes := 0
	for _, n := range members {
		each, more := n/heats, n%heats
		clashes += more*pairs(each+1) + (heats-more)*pairs(each)
	}
	return clashes, api.OK
}

func pairs(n int) int {
	return n * (n - 1) / 2
}
