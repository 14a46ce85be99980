package mark

import "stadion/api"

// IsName reports whether a text is a name.
func IsName(s string) bool {
	for i, c := range s {
		if !isLetter(c) && (i == 0 || c != '_' && (c < '0' || c > '9')) {
			return false
		}
	}
	return s != "" && len(s) <= api.MaxName
}

func isLetter(c rune) bool {
	return c >= 'A' && c <= 'Z' || c >= 'a' && c <= 'z'
}

// first returns the first error that is not OK, or OK.
func first(list ...api.Errno) api.Errno {
	for _, e := range list {
		if e != api.OK {
			return e
		}
	}
	return api.OK
}

// Check returns the error of a number.
func Check(a api.Rat) api.Errno {
	_, e := read(a)
	return e
}

// Of returns a fraction of two integers.
func Of(num, den int) (api.Rat, api.Errno) {
	if den == 0 {
		return "", api.ErrZero
	}
	a, b := fromInt(num), fromInt(den)
	return write(lowest(signed(a.negative != b.negative, a.size), b.size))
}

func fromInt(n int) integer {
	if n < 0 {
		return signed(true, fromWord(-uint64(n))) // right for the least int too, which has no opposite
	}
	return signed(false, fromWord(uint64(n)))
}

// Add returns the sum of two numbers.
func Add(a, b api.Rat) (api.Rat, api.Errno) {
	return combine(a, b, fraction.plus)
}

// Sub returns the difference of two numbers.
func Sub(a, b api.Rat) (api.Rat, api.Errno) {
	return combine(a, b, fraction.minus)
}

// Mul returns the product of two numbers.
func Mul(a, b api.Rat) (api.Rat, api.Errno) {
	return combine(a, b, fraction.times)
}

// Div returns the quotient of two numbers.
func Div(a, b api.Rat) (api.Rat, api.Errno) {
	x, y, e := readBoth(a, b)
	if e != api.OK {
		return "", e
	}
	if y.isZero() {
		return "", api.ErrZero
	}
	return write(x.over(y))
}

func combine(a, b api.Rat, operation func(x, y fraction) fraction) (api.Rat, api.Errno) {
	x, y, e := readBoth(a, b)
	if e != api.OK {
		return "", e
	}
	return write(operation(x, y))
}

func readBoth(a, b api.Rat) (x, y fraction, e api.Errno) {
	x, errorOfA := read(a)
	y, errorOfB := read(b)
	return x, y, first(errorOfA, errorOfB)
}

// Order returns -1, 0 or 1 as a number is less than, equal to or greater than another one.
func Order(a, b api.Rat) (int, api.Errno) {
	x, y, e := readBoth(a, b)
	if e != api.OK {
		return 0, e
	}
	return x.compare(y), api.OK
}

// Floor returns the integer part of a number.
func Floor(a api.Rat) (api.Rat, api.Errno) {
	x, e := read(a)
	if e != api.OK {
		return "", e
	}
	return write(x.floor())
}

// Root returns the integer part of a square root.
func Root(n int) (int, api.Errno) {
	if n < 0 {
		return 0, api.ErrRange
	}
	root := 0
	for bit := 1 << 31; bit > 0; bit >>= 1 {
		// n / candidate instead of candidate * candidate, which might not fit into an int
		if candidate := root | bit; candidate <= n/candidate {
			root = candidate
		}
	}
	return root, api.OK
}
