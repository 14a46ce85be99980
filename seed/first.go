package seed

import (
	"iter"

	"stadion/api"
	"stadion/mark"
)

// first returns the first error that is not OK, or OK.
func first(list ...api.Errno) api.Errno {
	for _, e := range list {
		if e != api.OK {
			return e
		}
	}
	return api.OK
}

// when returns an error if a condition holds, or OK.
func when(condition bool, e api.Errno) api.Errno {
	if condition {
		return e
	}
	return api.OK
}

// firstOf returns the error of the first element with one, or OK.
func firstOf[T any](l []T, check func(x T) api.Errno) api.Errno {
	for _, x := range l {
		if e := check(x); e != api.OK {
			return e
		}
	}
	return api.OK
}

func rangeError(n, least, greatest int) api.Errno {
	return when(n < least || n > greatest, api.ErrRange)
}

func athletesError(n int) api.Errno {
	return rangeError(n, 0, api.MaxAthletes)
}

func nameError(s string) api.Errno {
	return when(!mark.IsName(s), api.ErrName)
}

// names are those that have been there.
type names map[string]bool

// nameError returns the error of a further name, which is there from then on.
func (n names) nameError(s string) api.Errno {
	e := first(nameError(s), when(n[s], api.ErrTwice))
	n[s] = true
	return e
}

// all goes through the elements of all heats, with the numbers of their heats.
func all[T any](heats [][]T) iter.Seq2[int, T] {
	return func(yield func(heat int, x T) bool) {
		for i, heat := range heats {
			for _, x := range heat {
				if !yield(i, x) {
					return
				}
			}
		}
	}
}

// copyOf returns new heats with the same elements.
func copyOf[T any](heats [][]T) [][]T {
	l := make([][]T, len(heats))
	for i, x := range all(heats) {
		l[i] = append(l[i], x)
	}
	return l
}
