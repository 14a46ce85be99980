package timetable

import (
	"cmp"
	"slices"
)

// each returns a list with the result of a function for each element.
func each[T, U any](l []T, result func(x T) U) []U {
	var list []U
	for _, x := range l {
		list = append(list, result(x))
	}
	return list
}

// isBefore reports whether a list has fewer elements than another one, or as many and is lexicographically before it.
func isBefore[T cmp.Ordered](a, b []T) bool {
	return cmp.Or(cmp.Compare(len(a), len(b)), slices.Compare(a, b)) < 0
}
