package rule

import "stadion/api"

func (x constant) holds([]int) bool {
	return bool(x)
}

func (x negation) holds(c []int) bool {
	return !x.of.holds(c)
}

func (x series) holds(c []int) bool {
	for _, part := range x.list {
		if part.holds(c) != x.all {
			return !x.all
		}
	}
	return x.all
}

func (x implication) holds(c []int) bool {
	return !x.premise.holds(c) || x.conclusion.holds(c)
}

func (x *comparison) holds(c []int) bool {
	return x.decide(c)
}

// Eval reports whether a condition holds in a case.
func Eval(l []Attribute, s string, c []int) (bool, api.Errno) {
	x, e := readWithCase(l, s, c)
	if e != api.OK {
		return false, e
	}
	return x.holds(c), api.OK
}

// Explain returns the comparisons that decide a condition in a case.
func Explain(l []Attribute, s string, c []int) ([]Part, api.Errno) {
	x, e := readWithCase(l, s, c)
	if e != api.OK {
		return nil, e
	}
	_, parts := explain(x, c)
	return parts, api.OK
}

// readWithCase returns a condition over attributes, or the first error of both and of a case.
func readWithCase(l []Attribute, s string, c []int) (clause, api.Errno) {
	x, e := read(l, s)
	if e != api.OK {
		return nil, e
	}
	return x, CheckCase(l, c)
}

// explain reports whether a clause holds in a case, and returns the comparisons that decide it.
func explain(x clause, c []int) (bool, []Part) {
	switch x := x.(type) {
	case constant:
		return bool(x), nil
	case negation:
		holds, parts := explain(x.of, c)
		return !holds, parts
	case series:
		return explainSeries(x, c)
	case implication:
		return explainImplication(x, c)
	case *comparison:
		holds := x.holds(c)
		return holds, []Part{{x.tokens[0].At, end(x.tokens[len(x.tokens)-1]), holds}}
	}
	return false, nil
}

func explainSeries(x series, c []int) (bool, []Part) {
	var all []Part
	for _, part := range x.list {
		holds, parts := explain(part, c)
		if holds != x.all {
			return holds, parts
		}
		all = append(all, parts...)
	}
	return x.all, all
}

func explainImplication(x implication, c []int) (bool, []Part) {
	applies, premise := explain(x.premise, c)
	if !applies {
		return true, premise
	}
	holds, conclusion := explain(x.conclusion, c)
	if holds {
		return true, conclusion
	}
	return false, append(premise, conclusion...)
}
