package rule

import (
	"slices"

	"stadion/api"
)

// Count returns in how many cases a condition holds.
func Count(l []Attribute, s string) (int, api.Errno) {
	x, e := readForAll(l, s)
	if e != api.OK {
		return 0, e
	}
	count := 0
	for c := range cases(l) {
		if x[0].holds(c) {
			count++
		}
	}
	return count, api.OK
}

// Witness returns the least case in which a condition holds.
func Witness(l []Attribute, s string) ([]int, api.Errno) {
	x, e := readForAll(l, s)
	if e != api.OK {
		return nil, e
	}
	return least(l, x[0].holds)
}

// Differ returns the least case in which two conditions do not agree.
func Differ(l []Attribute, a, b string) ([]int, api.Errno) {
	x, e := readForAll(l, a, b)
	if e != api.OK {
		return nil, e
	}
	return least(l, func(c []int) bool { return x[0].holds(c) != x[1].holds(c) })
}

// Implies reports whether the second condition holds wherever the first one does.
func Implies(l []Attribute, a, b string) (bool, api.Errno) {
	x, e := readForAll(l, a, b)
	if e != api.OK {
		return false, e
	}
	_, e = least(l, func(c []int) bool { return x[0].holds(c) && !x[1].holds(c) })
	return e == api.ErrNone, api.OK
}

// readForAll returns conditions over attributes that have few enough cases to go through all of them.
func readForAll(l []Attribute, texts ...string) ([]clause, api.Errno) {
	list := make([]clause, len(texts))
	for i, s := range texts {
		x, e := read(l, s)
		if e != api.OK {
			return nil, e
		}
		list[i] = x
	}
	if isTooWide(l) {
		return nil, api.ErrLimit
	}
	return list, api.OK
}

// least returns the least case with a property.
func least(l []Attribute, has func(c []int) bool) ([]int, api.Errno) {
	for c := range cases(l) {
		if has(c) {
			return slices.Clone(c), api.OK
		}
	}
	return nil, api.ErrNone
}
