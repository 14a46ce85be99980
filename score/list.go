package score

import (
	"cmp"
	"slices"
)

// each returns a list with the result of a function for each element.
func each[T, U any](l []T, result func(x T) U) []U {
	var list []U
	for _, x := range l {
		list = append(list, result(x))
	}
	return list
}

// those returns the elements of which something is true.
func those[T any](l []T, is func(x T) bool) []T {
	var list []T
	for _, x := range l {
		if is(x) {
			list = append(list, x)
		}
	}
	return list
}

func sum(l []int) int {
	total := 0
	for _, n := range l {
		total += n
	}
	return total
}

// descending returns the elements of a list, the greatest one first.
func descending[T cmp.Ordered](l []T) []T {
	list := slices.Sorted(slices.Values(l))
	slices.Reverse(list)
	return list
}

// ranks returns for each list 1 and the number of those that are greater at the first place where they differ, or 0 for an empty one. A list that ends is less there.
func ranks[T cmp.Ordered](lists [][]T) []int {
	return each(lists, func(l []T) int {
		if len(l) == 0 {
			return 0
		}
		return 1 + len(those(lists, func(other []T) bool { return slices.Compare(other, l) > 0 }))
	})
}
