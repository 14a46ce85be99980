package rule

import (
	"cmp"
	"slices"

	"stadion/api"
	"stadion/mark"
)

// Demanded returns the mark that is demanded of a case in a discipline.
func Demanded(b Book, l []Standard, discipline string, c []int) (api.Mark, api.Errno) {
	d, e := newDemand(b, l, discipline, c)
	if e != api.OK {
		return api.Mark{}, e
	}
	return d.standard()
}

// Meets reports whether a mark is good enough for a case in a discipline.
func Meets(b Book, l []Standard, discipline string, c []int, m api.Mark) (bool, api.Errno) {
	d, e := newDemand(b, l, discipline, c)
	if e = cmp.Or(e, mark.CheckMark(m)); e != api.OK {
		return false, e
	}
	standard, e := d.standard()
	if e != api.OK {
		return false, e
	}
	order, e := mark.Compare(m, standard)
	return e == api.OK && order <= 0, e
}

// demand is all on which it depends what is demanded of a case in a discipline.
type demand struct {
	rules      []Rule
	conditions []clause
	standards  []Standard
	discipline string
	values     []int
}

// newDemand returns a demand, or the first error of its parts.
func newDemand(b Book, l []Standard, discipline string, c []int) (demand, api.Errno) {
	conditions, _, _, e := boundBook(b)
	if e != api.OK {
		return demand{}, e
	}
	if e := checkStandards(b.Rules, l); e != api.OK {
		return demand{}, e
	}
	if !mark.IsName(discipline) {
		return demand{}, api.ErrName
	}
	return demand{b.Rules, conditions, l, discipline, c}, CheckCase(b.Attributes, c)
}

func checkStandards(rules []Rule, l []Standard) api.Errno {
	if len(l) > api.MaxList {
		return api.ErrMany
	}
	for i, s := range l {
		if e := checkStandard(rules, l[:i], s); e != api.OK {
			return e
		}
	}
	return api.OK
}

func checkStandard(rules []Rule, before []Standard, s Standard) api.Errno {
	if !hasRule(rules, s.Rule) {
		return api.ErrUnknown
	}
	if !mark.IsName(s.Discipline) {
		return api.ErrName
	}
	if e := mark.CheckMark(s.Mark); e != api.OK {
		return e
	}
	if s.Mark.Kind == "none" {
		return api.ErrKind
	}
	if _, found := findStandard(before, s.Rule, s.Discipline); found {
		return api.ErrTwice
	}
	return api.OK
}

// findStandard returns the number of the standard of a rule for a discipline.
func findStandard(l []Standard, rule, discipline string) (int, bool) {
	i := slices.IndexFunc(l, func(s Standard) bool { return s.Rule == rule && s.Discipline == discipline })
	return i, i >= 0
}

// standard returns the mark of the first rule that holds and has a standard for the discipline.
func (d demand) standard() (api.Mark, api.Errno) {
	for i, r := range d.rules {
		if !d.conditions[i].holds(d.values) {
			continue
		}
		if number, found := findStandard(d.standards, r.Name, d.discipline); found {
			return d.standards[number].Mark, api.OK
		}
	}
	return api.Mark{}, api.ErrNone
}
