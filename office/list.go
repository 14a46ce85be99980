package office

import "slices"

// each returns a list with the result of a function for each element.
func each[T, U any](l []T, result func(x T) U) []U {
	var list []U
	for _, x := range l {
		list = append(list, result(x))
	}
	return list
}

// replaced returns a copy of a list that has another element at a place.
func replaced[T any](l []T, place int, x T) []T {
	list := slices.Clone(l)
	list[place] = x
	return list
}

// removed returns a copy of a list from which the element at a place is taken away.
func removed[T any](l []T, place int) []T {
	return slices.Delete(slices.Clone(l), place, place+1)
}

// added returns a copy of a list with a further element.
func added[T any](l []T, x T) []T {
	return slices.Concat(l, []T{x})
}

// merged returns the elements of two ascending lists in ascending order; of two equal ones that which is chosen.
func merged[T any](a, b []T, compare func(x, y T) int, choose func(x, y T) T) []T {
	var list []T
	for len(a) > 0 && len(b) > 0 {
		order := compare(a[0], b[0])
		switch {
		case order < 0:
			list, a = append(list, a[0]), a[1:]
		case order > 0:
			list, b = append(list, b[0]), b[1:]
		default:
			list, a, b = append(list, choose(a[0], b[0])), a[1:], b[1:]
		}
	}
	return slices.Concat(list, a, b)
}
