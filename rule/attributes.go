package rule

import (
	"iter"
	"slices"

	"stadion/api"
	"stadion/mark"
)

// CheckAttributes returns the first error of attributes, or OK.
func CheckAttributes(l []Attribute) api.Errno {
	if len(l) > MaxAttributes {
		return api.ErrMany
	}
	for i, a := range l {
		if e := checkAttribute(l[:i], a); e != api.OK {
			return e
		}
	}
	return api.OK
}

func checkAttribute(before []Attribute, a Attribute) api.Errno {
	if !mark.IsName(a.Name) || isKey(a.Name) {
		return api.ErrName
	}
	if _, found := find(before, a.Name); found {
		return api.ErrTwice
	}
	if hasWords(a) {
		return checkWords(a.Words)
	}
	return checkIntegers(a.Low, a.High)
}

func checkWords(words []string) api.Errno {
	if len(words) > MaxWords {
		return api.ErrMany
	}
	for i, w := range words {
		if !mark.IsName(w) {
			return api.ErrName
		}
		if slices.Contains(words[:i], w) {
			return api.ErrTwice
		}
	}
	return api.OK
}

func checkIntegers(low, high int) api.Errno {
	switch {
	case min(low, high) < -api.MaxNumber || max(low, high) > api.MaxNumber:
		return api.ErrRange
	case low > high:
		return api.ErrOrder
	case high-low >= MaxWidth:
		return api.ErrMany
	}
	return api.OK
}

// CheckCase returns the first error of a case, or OK.
func CheckCase(l []Attribute, c []int) api.Errno {
	if e := CheckAttributes(l); e != api.OK {
		return e
	}
	if len(c) != len(l) {
		return api.ErrShape
	}
	for i, a := range l {
		if low, high := bounds(a); c[i] < low || c[i] > high {
			return api.ErrRange
		}
	}
	return api.OK
}

// find returns the number of the attribute with a name.
func find(l []Attribute, name string) (int, bool) {
	i := slices.IndexFunc(l, func(a Attribute) bool { return a.Name == name })
	return i, i >= 0
}

func hasWords(a Attribute) bool {
	return len(a.Words) > 0
}

// bounds returns the least and the greatest integer that a case may have for an attribute.
func bounds(a Attribute) (low, high int) {
	if hasWords(a) {
		return 0, len(a.Words) - 1
	}
	return a.Low, a.High
}

// width returns how many values an attribute has.
func width(a Attribute) int {
	low, high := bounds(a)
	return high - low + 1
}

// isTooWide reports whether attributes have more than MaxCases cases.
func isTooWide(l []Attribute) bool {
	count := 1
	for _, a := range l {
		count *= width(a)
		if count > MaxCases { // here, as the product of all widths might not fit into an int
			return true
		}
	}
	return false
}

// cases yields all cases in ascending order. It yields one list again and again: who keeps a case copies it.
func cases(l []Attribute) iter.Seq[[]int] {
	return func(yield func([]int) bool) {
		c := make([]int, len(l))
		for i, a := range l {
			c[i], _ = bounds(a)
		}
		for yield(c) && advance(l, c) {
		}
	}
}

// advance makes a case the next one, or the first one and reports false if it is the last one.
func advance(l []Attribute, c []int) bool {
	for i := len(l) - 1; i >= 0; i-- {
		low, high := bounds(l[i])
		if c[i] < high {
			c[i]++
			return true
		}
		c[i] = low
	}
	return false
}
