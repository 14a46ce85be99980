// Package mark is layer 1: numbers, drawn orders, tables, equations, and the marks of athletes. See shared/doc/01-mark.md.
package mark

import (
	"slices"

	"stadion/api"
)

// MaxEquations is the greatest number of equations.
const MaxEquations = 24

// The kinds of marks.
const (
	kindTime   = "time"
	kindLength = "length"
	kindPoints = "points"
	kindNone   = "none"
)

// kind is what the marks of a kind have in common.
type kind struct {
	least    int
	greatest int
	reason   func(reason string) bool // whether a mark of the kind may have the reason
	better   func(value, other int) bool
	round    func(value, step int) int
	print    func(m api.Mark) string
	parse    func(text string) (api.Mark, api.Errno)
}

func kinds() map[string]kind {
	return map[string]kind{
		kindTime:   {1, api.MaxTime, isEmpty, less, roundUp, printTime, parseTime},
		kindLength: {0, api.MaxLength, isEmpty, greater, roundDown, printLength, parseLength},
		kindPoints: {0, api.MaxPoints, isEmpty, greater, roundDown, printPoints, parsePoints},
		kindNone:   {0, 0, isReason, greater, roundDown, printReason, parseReason},
	}
}

func isEmpty(reason string) bool {
	return reason == ""
}

func isReason(reason string) bool {
	return slices.Contains([]string{"DNS", "DNF", "DQ", "NM"}, reason)
}

func less(value, other int) bool {
	return value < other
}

func greater(value, other int) bool {
	return value > other
}

func roundUp(value, step int) int {
	return roundDown(value+step-1, step)
}

func roundDown(value, step int) int {
	return value - value%step
}

// CheckMark returns the first error of a mark.
func CheckMark(m api.Mark) api.Errno {
	return checkMark(kinds(), m)
}

func checkMark(all map[string]kind, m api.Mark) api.Errno {
	k, found := all[m.Kind]
	switch {
	case !found:
		return api.ErrKind
	case !k.reason(m.Reason):
		return api.ErrForm
	case m.Value < k.least || m.Value > k.greatest:
		return api.ErrRange
	}
	return api.OK
}

// Compare returns -1, 0 or 1 as a mark is better than, equal to or worse than another one.
func Compare(a, b api.Mark) (int, api.Errno) {
	all := kinds()
	if e := first(checkMark(all, a), checkMark(all, b)); e != api.OK {
		return 0, e
	}
	switch {
	case a.Kind == b.Kind:
		return compareValues(all[a.Kind], a.Value, b.Value), api.OK
	case b.Kind == kindNone:
		return -1, api.OK
	case a.Kind == kindNone:
		return 1, api.OK
	}
	return 0, api.ErrKind
}

func compareValues(k kind, a, b int) int {
	switch {
	case k.better(a, b):
		return -1
	case k.better(b, a):
		return 1
	}
	return 0
}

// class is a class of rounding: the kind of its marks, empty if it is for all kinds, and what the values are multiples of.
type class struct {
	kind string
	step int
}

func classOf(name string) (class, bool) {
	switch name {
	case "hundredths":
		return class{kindTime, 100}, true
	case "tenths":
		return class{kindTime, 1000}, true
	case "centimetres":
		return class{kindLength, 10}, true
	case "exact":
		return class{"", 1}, true
	}
	return class{}, false
}

// fits reports whether a class is one for the marks of a kind.
func (c class) fits(kind string) bool {
	return kind == kindNone || c.kind == "" || c.kind == kind
}

// Round returns a mark that is rounded by a class.
func Round(m api.Mark, class string) (api.Mark, api.Errno) {
	all := kinds()
	if e := checkMark(all, m); e != api.OK {
		return api.Mark{}, e
	}
	c, found := classOf(class)
	if !found || !c.fits(m.Kind) {
		return api.Mark{}, api.ErrKind
	}
	k := all[m.Kind]
	m.Value = k.round(m.Value, c.step)
	if m.Value > k.greatest {
		return api.Mark{}, api.ErrLarge
	}
	return m, api.OK
}

// Wind returns a wind in tenths.
func Wind(hundredths int) (int, api.Errno) {
	if hundredths < -api.MaxWind || hundredths > api.MaxWind {
		return 0, api.ErrRange
	}
	tenths := hundredths / 10
	if hundredths > tenths*10 {
		tenths++
	}
	return tenths, api.OK
}

// Ranks returns the ranks of marks.
func Ranks(l []api.Mark) ([]int, api.Errno) {
	if len(l) > api.MaxList {
		return nil, api.ErrMany
	}
	all := kinds()
	name, e := commonKind(all, l)
	if e != api.OK {
		return nil, e
	}
	k := all[name]
	ranks := make([]int, len(l))
	for i, m := range l {
		if m.Kind != kindNone {
			ranks[i] = 1 + countBetter(k, l, m)
		}
	}
	return ranks, api.OK
}

// commonKind returns the kind of marks, which is none only if all of them are of this kind.
func commonKind(all map[string]kind, l []api.Mark) (string, api.Errno) {
	common := kindNone
	for _, m := range l {
		if e := checkMark(all, m); e != api.OK {
			return "", e
		}
		if m.Kind == kindNone {
			continue
		}
		if common != kindNone && common != m.Kind {
			return "", api.ErrKind
		}
		common = m.Kind
	}
	return common, api.OK
}

// countBetter returns how many marks of a list are better than one, which is not of the kind none.
func countBetter(k kind, l []api.Mark, m api.Mark) int {
	count := 0
	for _, other := range l {
		if other.Kind != kindNone && k.better(other.Value, m.Value) {
			count++
		}
	}
	return count
}
