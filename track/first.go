package track

import "stadion/api"

// first returns the first error that is not OK, or OK.
func first(list ...api.Errno) api.Errno {
	for _, e := range list {
		if e != api.OK {
			return e
		}
	}
	return api.OK
}

// when returns an error if a condition holds, or OK.
func when(condition bool, e api.Errno) api.Errno {
	if condition {
		return e
	}
	return api.OK
}

// firstOf returns the place and the error of the first element with one, or 0 and OK.
func firstOf[T any](l []T, check func(place int, x T) api.Errno) (int, api.Errno) {
	for i, x := range l {
		if e := check(i, x); e != api.OK {
			return i, e
		}
	}
	return 0, api.OK
}

func rangeError(n, least, greatest int) api.Errno {
	return when(n < least || n > greatest, api.ErrRange)
}

// lengthError returns the error of a length that has to be above 0.
func lengthError(n int) api.Errno {
	return rangeError(n, 1, api.MaxLength)
}

func timeError(n int) api.Errno {
	return rangeError(n, 1, api.MaxTime)
}
