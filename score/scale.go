package score

import (
	"iter"
	"slices"
	"sort"

	"stadion/api"
	"stadion/mark"
)

// kind is what the scales of a kind of marks have in common.
type kind struct {
	least    int
	greatest int
	units    map[string]int // what rounded values are multiples of, by classes
	better   func(value, other int) bool
}

func kinds() map[string]kind {
	return map[string]kind{
		kindTime:   {1, api.MaxTime, map[string]int{"hundredths": 100, "tenths": 1000, "exact": 1}, less},
		kindLength: {0, api.MaxLength, map[string]int{"centimetres": 10, "exact": 1}, greater},
	}
}

func less(value, other int) bool {
	return value < other
}

func greater(value, other int) bool {
	return value > other
}

// CheckScale returns the first error of a scale, or OK.
func CheckScale(s Scale) api.Errno {
	k, found := kinds()[s.Kind]
	e := first(
		nameError(s.Event),
		when(!found || k.units[s.Class] == 0, api.ErrKind),
		when(len(s.Steps) == 0, api.ErrEmpty))
	if e != api.OK {
		return e
	}
	return listError(s.Steps, api.MaxBreaks, func(i int, x Step) api.Errno {
		return first(
			rangeError(x.Value, k.least, k.greatest),
			pointsError(x.Points),
			when(i > 0 && !k.follows(x, s.Steps[i-1]), api.ErrOrder))
	})
}

// follows reports whether a step may stand behind another one: its value is greater, and it has more points just if this is better.
func (k kind) follows(x, before Step) bool {
	if k.better(before.Value, x.Value) {
		x.Points, before.Points = before.Points, x.Points
	}
	return before.Value < x.Value && before.Points < x.Points
}

// markError returns the error of a mark for a scale.
func (s Scale) markError(m api.Mark) api.Errno {
	return first(mark.CheckMark(m), when(m.Kind != s.Kind && m.Kind != kindNone, api.ErrKind))
}

// Points returns the points of a mark.
func Points(s Scale, m api.Mark) (int, api.Errno) {
	if e := first(CheckScale(s), s.markError(m)); e != api.OK {
		return 0, e
	}
	return s.points(m), api.OK
}

func (s Scale) points(m api.Mark) int {
	rounded, e := mark.Round(m, s.Class)
	if e != api.OK || m.Kind == kindNone {
		return 0
	}
	return s.pointsOf(rounded.Value)
}

// pointsOf returns the points of a rounded value.
func (s Scale) pointsOf(value int) int {
	isBetter := kinds()[s.Kind].better
	points := 0
search:
	for better, step := range s.fromBest() {
		switch {
		case isBetter(step.Value, value): // the value may still be as good as a worse step
		case better == step:
			points = step.Points
			break search
		default:
			points = between(better, step, value)
			break search
		}
	}
	return points
}

// fromBest goes through the steps from the best one on, each behind the one that is next better; the best one is behind itself.
func (s Scale) fromBest() iter.Seq2[Step, Step] {
	steps := slices.SortedFunc(slices.Values(s.Steps), func(a, b Step) int { return b.Points - a.Points })
	return func(yield func(better, step Step) bool) {
		better := steps[0]
		for _, step := range steps {
			if !yield(better, step) {
				return
			}
			better = step
		}
	}
}

// between returns the integer part of the points of a value on the line between two steps.
func between(better, worse Step, value int) int {
	return worse.Points + (better.Points-worse.Points)*(value-worse.Value)/(better.Value-worse.Value)
}

// Need returns the worst mark that has at least so many points.
func Need(s Scale, points int) (api.Mark, api.Errno) {
	if e := first(CheckScale(s), pointsError(points)); e != api.OK {
		return api.Mark{}, e
	}
	values := s.roundedValues()
	enough := sort.Search(values.count, func(i int) bool { return s.pointsOf(values.at(i)) < points })
	if enough == 0 {
		return api.Mark{}, api.ErrNone
	}
	return api.Mark{Kind: s.Kind, Value: values.at(enough - 1)}, api.OK
}

// progression is a number of values, each by as much away from the one before it.
type progression struct {
	first, step, count int
}

func (p progression) at(i int) int {
	return p.first + i*p.step
}

// roundedValues returns all rounded values, the best one first.
func (s Scale) roundedValues() progression {
	k := kinds()[s.Kind]
	unit := k.units[s.Class]
	least, greatest := (k.least+unit-1)/unit, k.greatest/unit
	count := greatest - least + 1
	if k.better(least, greatest) {
		return progression{least * unit, unit, count}
	}
	return progression{greatest * unit, -unit, count}
}
