package field

import (
	"slices"

	"stadion/api"
	"stadion/mark"
)

// first returns the first error that is not OK, or OK.
func first(list ...api.Errno) api.Errno {
	for _, e := range list {
		if e != api.OK {
			return e
		}
	}
	return api.OK
}

// when returns an error if a condition holds, or OK.
func when(condition bool, e api.Errno) api.Errno {
	if condition {
		return e
	}
	return api.OK
}

// firstOf returns the error of the first element with one, or OK.
func firstOf[T any](l []T, check func(place int, x T) api.Errno) api.Errno {
	for i, x := range l {
		if e := check(i, x); e != api.OK {
			return e
		}
	}
	return api.OK
}

// listError returns ErrMany for more than so many elements, otherwise the error of the first element with one, or OK.
func listError[T any](l []T, most int, check func(place int, x T) api.Errno) api.Errno {
	if len(l) > most {
		return api.ErrMany
	}
	return firstOf(l, check)
}

func rangeError(n, least, greatest int) api.Errno {
	return when(n < least || n > greatest, api.ErrRange)
}

// tensError returns the error of a number that has to be a multiple of 10 from 10 on.
func tensError(n, greatest int) api.Errno {
	return first(rangeError(n, 10, greatest), when(n%10 != 0, api.ErrRange))
}

func nameError(name string) api.Errno {
	return when(!mark.IsName(name), api.ErrName)
}

// newNameError returns the error of a name that has to be different from those before it.
func newNameError(before []string, name string) api.Errno {
	return first(nameError(name), when(slices.Contains(before, name), api.ErrTwice))
}

func athletesError(l []string) api.Errno {
	return first(
		when(len(l) == 0, api.ErrEmpty),
		listError(l, MaxField, func(place int, name string) api.Errno { return newNameError(l[:place], name) }))
}
