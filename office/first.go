package office

import (
	"stadion/api"
	"stadion/mark"
)

// first returns the first error that is not OK, or OK.
func first(list ...api.Errno) api.Errno {
	for _, e := range list {
		if e != api.OK {
			return e
		}
	}
	return api.OK
}

// when returns an error if a condition holds, or OK.
func when(condition bool, e api.Errno) api.Errno {
	if condition {
		return e
	}
	return api.OK
}

// firstOf returns the error of the first element with one, which may depend on the elements before it, or OK.
func firstOf[T any](l []T, check func(before []T, x T) api.Errno) api.Errno {
	for i, x := range l {
		if e := check(l[:i], x); e != api.OK {
			return e
		}
	}
	return api.OK
}

// listError returns ErrMany for more than so many elements, otherwise the error of the first element with one, or OK.
func listError[T any](l []T, most int, check func(before []T, x T) api.Errno) api.Errno {
	if len(l) > most {
		return api.ErrMany
	}
	return firstOf(l, check)
}

func rangeError(n, least, greatest int) api.Errno {
	return when(n < least || n > greatest, api.ErrRange)
}

func nameError(s string) api.Errno {
	return when(!mark.IsName(s), api.ErrName)
}
