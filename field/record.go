package field

import (
	"iter"
	"slices"
)

// nobody is next if a competition is over.
const nobody = -1

// The rules by which an act is refused.
const (
	ruleAthlete = 1
	ruleState   = 2
	ruleTurn    = 3
	rulePass    = 4
)

// record is what trials and heights have in common: who takes part, and the acts that are set aside.
type record struct {
	athletes []string
	aside    []Refusal
}

// everyone returns the numbers of the athletes.
func (r *record) everyone() []int {
	var l []int
	for i := range r.athletes {
		l = append(l, i)
	}
	return l
}

// replay lets the athletes do what the acts say, one after another. do returns the rule that refuses it, or 0.
func (r *record) replay(l []Act, heights bool, do func(athlete int, d deed) int) {
	kinds := kindsOf(heights)
	for i, a := range l {
		rule := ruleAthlete
		if athlete := slices.Index(r.athletes, a.Athlete); athlete >= 0 {
			rule = do(athlete, kinds[a.Kind].deed(a.Value))
		}
		if rule != 0 {
			r.aside = append(r.aside, Refusal{Act: i + 1, Rule: rule})
		}
	}
}

// due goes through the athletes who are ready, in an order.
func due(order []int, ready func(athlete int) bool) iter.Seq[int] {
	return func(yield func(athlete int) bool) {
		for _, i := range order {
			if ready(i) && !yield(i) {
				return
			}
		}
	}
}

// those returns the athletes of an order who are ready.
func those(order []int, ready func(athlete int) bool) []int {
	return slices.Collect(due(order, ready))
}
