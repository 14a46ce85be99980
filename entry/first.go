package entry

import (
	"slices"

	"stadion/api"
	"stadion/mark"
)

// first returns the first error that is not OK, or OK.
func first(list ...api.Errno) api.Errno {
	for _, e := range list {
		if e != api.OK {
			return e
		}
	}
	return api.OK
}

// when returns an error if a condition holds, or OK.
func when(condition bool, e api.Errno) api.Errno {
	if condition {
		return e
	}
	return api.OK
}

// firstOf returns the error of the first element with one, which may depend on the elements before it, or OK.
func firstOf[T any](l []T, check func(before []T, x T) api.Errno) api.Errno {
	for i, x := range l {
		if e := check(l[:i], x); e != api.OK {
			return e
		}
	}
	return api.OK
}

func nameError(s string) api.Errno {
	return when(!mark.IsName(s), api.ErrName)
}

// rangeError returns the error of a number that has to be from 0 to the greatest one.
func rangeError(n, greatest int) api.Errno {
	return when(n < 0 || n > greatest, api.ErrRange)
}

func dayError(day int) api.Errno {
	return rangeError(day, api.MaxDay)
}

// periodError returns the error of the days of a licence.
func periodError(from, to int) api.Errno {
	return first(dayError(from), dayError(to), when(from > to, api.ErrOrder))
}

// find returns the first element with a property, or false.
func find[T any](l []T, has func(x T) bool) (T, bool) {
	i := slices.IndexFunc(l, has)
	if i < 0 {
		var none T
		return none, false
	}
	return l[i], true
}

// filter returns a new list of the elements with a property.
func filter[T any](l []T, has func(x T) bool) []T {
	var some []T
	for _, x := range l {
		if has(x) {
			some = append(some, x)
		}
	}
	return some
}
