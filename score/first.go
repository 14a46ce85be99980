package score

import (
	"stadion/api"
	"stadion/mark"
)

// first returns the first error that is not OK, or OK.
func first(list ...api.Errno) api.Errno {
	for _, e := range list {
		if e != api.OK {
			return e
		}
	}
	return api.OK
}

// when returns an error if a condition holds, or OK.
func when(condition bool, e api.Errno) api.Errno {
	if condition {
		return e
	}
	return api.OK
}

// firstOf returns the error of the first element with one, or OK.
func firstOf[T any](l []T, check func(place int, x T) api.Errno) api.Errno {
	for i, x := range l {
		if e := check(i, x); e != api.OK {
			return e
		}
	}
	return api.OK
}

// listError returns ErrMany for more than so many elements, otherwise the error of the first element with one, or OK.
func listError[T any](l []T, most int, check func(place int, x T) api.Errno) api.Errno {
	if len(l) > most {
		return api.ErrMany
	}
	return firstOf(l, check)
}

func rangeError(n, least, greatest int) api.Errno {
	return when(n < least || n > greatest, api.ErrRange)
}

func pointsError(n int) api.Errno {
	return rangeError(n, 0, api.MaxPoints)
}

func dayError(n int) api.Errno {
	return rangeError(n, 0, api.MaxDay)
}

func nameError(s string) api.Errno {
	return when(!mark.IsName(s), api.ErrName)
}

// names are those that have been there.
type names map[string]bool

// twiceError returns the error of a name that has been there; it is there from then on.
func (n names) twiceError(s string) api.Errno {
	e := when(n[s], api.ErrTwice)
	n[s] = true
	return e
}
