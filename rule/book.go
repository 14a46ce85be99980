package rule

import (
	"cmp"
	"slices"

	"stadion/api"
	"stadion/mark"
)

// CheckBook returns the number of a rule, a byte, and the first error of a rule book, or OK.
func CheckBook(b Book) (int, int, api.Errno) {
	_, number, at, e := boundBook(b)
	return number, at, e
}

// boundBook returns the conditions of a book, or the number of a rule, a byte, and the first error.
func boundBook(b Book) ([]clause, int, int, api.Errno) {
	if e := CheckAttributes(b.Attributes); e != api.OK {
		return nil, 0, 0, e
	}
	if len(b.Rules) > MaxRules {
		return nil, 0, 0, api.ErrMany
	}
	conditions := make([]clause, len(b.Rules))
	for i, r := range b.Rules {
		if !mark.IsName(r.Name) {
			return nil, i, 0, api.ErrName
		}
		if hasRule(b.Rules[:i], r.Name) {
			return nil, i, 0, api.ErrTwice
		}
		x, at, e := bound(b.Attributes, r.Condition)
		if e != api.OK {
			return nil, i, at, e
		}
		conditions[i] = x
	}
	return conditions, 0, 0, api.OK
}

func hasRule(rules []Rule, name string) bool {
	return slices.ContainsFunc(rules, func(r Rule) bool { return r.Name == name })
}

// Classes returns the names of the rules that hold in a case.
func Classes(b Book, c []int) ([]string, api.Errno) {
	conditions, _, _, e := boundBook(b)
	if e = cmp.Or(e, CheckCase(b.Attributes, c)); e != api.OK {
		return nil, e
	}
	var names []string
	for i, x := range conditions {
		if x.holds(c) {
			names = append(names, b.Rules[i].Name)
		}
	}
	return names, api.OK
}

// bookForAll returns the conditions of a book that has few enough cases to go through all of them.
func bookForAll(b Book) ([]clause, api.Errno) {
	conditions, _, _, e := boundBook(b)
	switch {
	case e != api.OK:
		return nil, e
	case isTooWide(b.Attributes):
		return nil, api.ErrLimit
	}
	return conditions, api.OK
}

// Gap returns the least case in which no rule holds.
func Gap(b Book) ([]int, api.Errno) {
	conditions, e := bookForAll(b)
	if e != api.OK {
		return nil, e
	}
	var gap []int
	e = api.ErrNone
search:
	for c := range cases(b.Attributes) {
		for _, x := range conditions {
			if x.holds(c) {
				continue search
			}
		}
		gap, e = slices.Clone(c), api.OK
		break search
	}
	return gap, e
}

// Overlap returns the first two rules that hold together, and the least case in which they do.
func Overlap(b Book) (int, int, []int, api.Errno) {
	conditions, e := bookForAll(b)
	if e != api.OK {
		return 0, 0, nil, e
	}
	var pair, overlap []int
	for c := range cases(b.Attributes) {
		// the first pair of all is the least one of the first pairs of the cases
		if p := firstPair(conditions, c); p != nil && (pair == nil || slices.Compare(p, pair) < 0) {
			pair, overlap = p, slices.Clone(c)
		}
	}
	if pair == nil {
		return 0, 0, nil, api.ErrNone
	}
	return pair[0], pair[1], overlap, api.OK
}

// firstPair returns the numbers of the first two conditions that hold in a case, or nil.
func firstPair(conditions []clause, c []int) []int {
	var pair []int
	for i, x := range conditions {
		if !x.holds(c) {
			continue
		}
		if pair = append(pair, i); len(pair) == 2 {
			return pair
		}
	}
	return nil
}

// Dead returns the numbers of the rules that never hold.
func Dead(b Book) ([]int, api.Errno) {
	conditions, e := bookForAll(b)
	if e != api.OK {
		return nil, e
	}
	var dead []int
	for i, x := range conditions {
		if _, e := least(b.Attributes, x.holds); e == api.ErrNone {
			dead = append(dead, i)
		}
	}
	return dead, api.OK
}
