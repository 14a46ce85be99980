package finish

import (
	"fmt"
	"math"
	"math/rand"
	"testing"

	"stadion/api"
)

// anything fills in arguments of any form, about every twentieth value of which is a wrong one.
type anything struct{ *rand.Rand }

func pick[T any](r anything, l ...T) T { return l[r.Intn(len(l))] }

func (r anything) text(l ...string) string {
	if r.Intn(30) == 0 {
		return pick(r, "", " ", "\n", "-1", "1/1", "A.", "\xff", "é", "864000000")
	}
	return pick(r, l...)
}

func (r anything) number(l ...int) int {
	if r.Intn(20) == 0 {
		return pick(r, math.MinInt, -2, -1, 0, 4097, 863999999, 864000000, math.MaxInt)
	}
	return pick(r, l...)
}

func (r anything) numbers(most int) []int {
	l := make([]int, r.Intn(most+1))
	if r.Intn(30) == 0 {
		l = make([]int, pick(r, 4, 11, 257, 1001))
	}
	for i := range l {
		l[i] = r.number(1, 7, 999, 2000)
	}
	return l
}

func (r anything) image() Image {
	x := Image{Rows: r.number(2)}
	for range r.Intn(6) {
		x.Columns = append(x.Columns, r.text("..", "aA", ".A", "B.", "bb"))
	}
	return x
}

func (r anything) lines() string {
	s := ""
	for range r.Intn(4) {
		s += r.text("1", "12", "300") + r.text(" ") + r.text("..", "aA", "B.") + r.text("\n")
	}
	return s
}

func (r anything) clock() Clock {
	return Clock{api.Rat(r.text("0", "1/3", "100000")), api.Rat(r.text("1", "2/3", "5"))}
}

func (r anything) span() api.Span {
	return api.Span{Low: api.Rat(r.text("0", "1/3", "5")), High: api.Rat(r.text("1/2", "5", "9", "1000"))}
}

func (r anything) spans() []api.Span {
	var l []api.Span
	for range r.Intn(4) {
		l = append(l, r.span())
	}
	return l
}

func (r anything) pulses() []Pulse {
	var l []Pulse
	for i := range r.Intn(4) {
		l = append(l, Pulse{r.number(3 * i), r.number(7 + 6*i)})
	}
	return l
}

func (r anything) mark() api.Mark {
	return api.Mark{Kind: r.text("time", "time", "time", "none", "length"), Value: r.number(1, 5, 100), Reason: r.text("", "", "", "DNS")}
}

// TestAnyArguments checks that no function panics or changes its arguments, and that nothing stands beside an error.
func TestAnyArguments(t *testing.T) {
	r := anything{rand.New(rand.NewSource(14))}
	fine := map[string]int{}
	for range 5000 {
		x, c, s, other := r.image(), r.clock(), r.span(), r.span()
		lines, pulses, spans, samples, times := r.lines(), r.pulses(), r.spans(), r.numbers(6), r.numbers(3)
		athlete, class, m := r.text("A", "B"), r.text("exact", "tenths", "hundredths"), r.mark()
		column, tolerance, step := r.number(0, 1, 4096), r.number(0, 1, 5), r.number(1, 400)
		given := fmt.Sprint(x, pulses, spans, samples, times)
		for name, f := range map[string]func() (any, api.Errno){
			"CheckImage": func() (any, api.Errno) { return nil, CheckImage(x) },
			"Pack":       func() (any, api.Errno) { return Pack(x) },
			"Unpack": func() (any, api.Errno) {
				got, at, e := Unpack(lines)
				if at < 0 || e == api.OK && at != 0 {
					t.Errorf("Unpack: the line %d beside %v", at, e)
				}
				return got, e
			},
			"Mirrored":    func() (any, api.Errno) { return Mirrored(x) },
			"Stretched":   func() (any, api.Errno) { return Stretched(x, step) },
			"Torsos":      func() (any, api.Errno) { return Torsos(x) },
			"First":       func() (any, api.Errno) { return First(x, athlete) },
			"CheckClock":  func() (any, api.Errno) { return nil, CheckClock(c) },
			"Calibrate":   func() (any, api.Errno) { return Calibrate(pulses, tolerance) },
			"Begins":      func() (any, api.Errno) { return Begins(c, column) },
			"Reading":     func() (any, api.Errno) { return Reading(x, c, athlete) },
			"Official":    func() (any, api.Errno) { return Official(s, class) },
			"Separated":   func() (any, api.Errno) { return Separated(s, other) },
			"Ties":        func() (any, api.Errno) { return Ties(spans) },
			"Result":      func() (any, api.Errno) { return Result(x, c, class) },
			"Reaction":    func() (any, api.Errno) { return Reaction(samples, step, tolerance) },
			"FalseStarts": func() (any, api.Errno) { return FalseStarts(samples) },
			"Watch":       func() (any, api.Errno) { return Watch(times) },
			"Agree":       func() (any, api.Errno) { return Agree(s, m, tolerance) },
		} {
			got, e := f()
			if e == api.OK {
				fine[name]++
			} else {
				checkNothing(t, name, got)
			}
			check(t, name+", the arguments", fmt.Sprint(x, pulses, spans, samples, times), given)
		}
	}
	if len(fine) < 19 {
		t.Errorf("without errors are %v alone", fine)
	}
}
