package finish

import (
	"stadion/api"
	"stadion/mark"
)

// first returns the first error that is not OK, or OK.
func first(list ...api.Errno) api.Errno {
	for _, e := range list {
		if e != api.OK {
			return e
		}
	}
	return api.OK
}

// when returns an error if a condition holds, or OK.
func when(condition bool, e api.Errno) api.Errno {
	if condition {
		return e
	}
	return api.OK
}

// firstOf returns the place (from 1 on) and the error of the first element with one, or 0 and OK.
func firstOf[T any](l []T, check func(x T) api.Errno) (int, api.Errno) {
	for i, x := range l {
		if e := check(x); e != api.OK {
			return i + 1, e
		}
	}
	return 0, api.OK
}

// listError returns ErrMany for more than so many elements, otherwise the error of the first element with one, or OK.
func listError[T any](l []T, most int, check func(x T) api.Errno) api.Errno {
	if len(l) > most {
		return api.ErrMany
	}
	_, e := firstOf(l, check)
	return e
}

func rangeError(n, least, greatest int) api.Errno {
	return when(n < least || n > greatest, api.ErrRange)
}

func toleranceError(n int) api.Errno {
	return rangeError(n, 0, api.MaxTime)
}

// classError returns the error of a class of times.
func classError(class string) api.Errno {
	_, e := mark.Round(api.Mark{Kind: kindTime, Value: 1}, class)
	return e
}
