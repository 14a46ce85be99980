package field

import "slices"

// each returns a list with the result of a function for each element.
func each[T, U any](l []T, result func(x T) U) []U {
	var list []U
	for _, x := range l {
		list = append(list, result(x))
	}
	return list
}

// with returns a copy of a list with another element at a place.
func with[T any](l []T, place int, x T) []T {
	list := slices.Clone(l)
	list[place] = x
	return list
}

// grown returns a copy of a list with one more element.
func grown[T any](l []T, x T) []T {
	return append(slices.Clone(l), x)
}
