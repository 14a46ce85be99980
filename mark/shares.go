package mark

import (
	"cmp"
	"slices"

	"stadion/api"
)

const (
	mersenne = 2147483647 // 2 to the power of 31, less 1: a prime
	drawStep = 69621
)

// remainder is what a division leaves for the share at a place.
type remainder struct {
	place int
	left  int
}

// compare returns -1 if the share at the place gets one more before the other one.
func (r remainder) compare(other remainder) int {
	return cmp.Or(cmp.Compare(other.left, r.left), cmp.Compare(r.place, other.place))
}

// Shares returns the shares of a number by weights.
func Shares(total int, weights []int) ([]int, api.Errno) {
	if total < 0 || total > api.MaxNumber {
		return nil, api.ErrRange
	}
	if e := checkWeights(weights); e != api.OK {
		return nil, e
	}
	sum := 0
	for _, w := range weights {
		sum += w
	}
	shares := make([]int, len(weights))
	remainders := make([]remainder, len(weights))
	left := total
	for i, w := range weights {
		shares[i] = total * w / sum
		remainders[i] = remainder{i, total * w % sum}
		left -= shares[i]
	}
	slices.SortFunc(remainders, remainder.compare)
	for _, r := range remainders[:left] {
		shares[r.place]++
	}
	return shares, api.OK
}

func checkWeights(weights []int) api.Errno {
	if len(weights) == 0 {
		return api.ErrEmpty
	}
	if len(weights) > api.MaxList {
		return api.ErrMany
	}
	if slices.Min(weights) < 0 || slices.Max(weights) > api.MaxNumber {
		return api.ErrRange
	}
	if slices.Max(weights) == 0 {
		return api.ErrZero
	}
	return api.OK
}

// Draw returns the drawn order of n elements by a key.
func Draw(key, n int) ([]int, api.Errno) {
	if key < 1 || key > mersenne-1 || n < 0 || n > api.MaxList {
		return nil, api.ErrRange
	}
	order := make([]int, n)
	for i := range order {
		order[i] = i
	}
	x := key
	for i := n - 1; i >= 1; i-- {
		x = drawStep * x % mersenne
		other := x % (i + 1)
		order[i], order[other] = order[other], order[i]
	}
	return order, api.OK
}
