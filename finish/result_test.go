package finish

import (
	"math/rand"
	"testing"

	"stadion/api"
)

func TestResult(t *testing.T) {
	mirrored, _ := Mirrored(example())
	for _, x := range []struct {
		what  string
		x     Image
		c     Clock
		class string
		want  []Line
	}{
		{"hundredths", example(), exampleClock(), "hundredths", []Line{{"A", 1, timeOf(100100)}, {"B", 1, timeOf(100100)}}},
		{"tenths", example(), exampleClock(), "tenths", []Line{{"A", 1, timeOf(101000)}, {"B", 1, timeOf(101000)}}},
		{"exact", example(), exampleClock(), "exact", []Line{{"A", 1, timeOf(100015)}, {"B", 2, timeOf(100025)}}},
		{"from the other side", mirrored, exampleClock(), "exact", []Line{{"B", 1, timeOf(100005)}, {"A", 2, timeOf(100015)}}},
		{"nobody", image(1, ".", "a"), exampleClock(), "exact", nil},
		{"one", image(1, "Z"), clockOf("0", "1/3"), "exact", []Line{{"Z", 1, timeOf(1)}}},
		{"places behind ties", image(2, "..", "DB", "..", "EA", "C."), clockOf("0", "10"), "exact",
			[]Line{{"B", 1, timeOf(20)}, {"D", 1, timeOf(20)}, {"A", 3, timeOf(40)}, {"E", 3, timeOf(40)}, {"C", 5, timeOf(50)}}},
		{"ties of different columns", image(1, "C", "B", "A", "D"), clockOf("0", "50"), "hundredths",
			[]Line{{"B", 1, timeOf(100)}, {"C", 1, timeOf(100)}, {"A", 3, timeOf(200)}, {"D", 3, timeOf(200)}}},
		{"columns within a ten-thousandth", image(1, "C", "B", "A", "D"), clockOf("0", "1/2"), "exact",
			[]Line{{"B", 1, timeOf(1)}, {"C", 1, timeOf(1)}, {"A", 3, timeOf(2)}, {"D", 3, timeOf(2)}}},
		{"10 behind 9", image(1, "B", ".", "A"), clockOf("8", "1"), "exact", []Line{{"B", 1, timeOf(9)}, {"A", 2, timeOf(11)}}},
	} {
		l, e := Result(x.x, x.c, x.class)
		check(t, x.what, l, x.want)
		check(t, x.what, e, api.OK)
	}
}

func TestErrorsOfResult(t *testing.T) {
	checkOfImage(t, "Result", func(x Image) (any, api.Errno) { return Result(x, Clock{}, "") })
	checkOfClock(t, "Result", func(c Clock) (any, api.Errno) { return Result(example(), c, "") })
	for _, x := range []struct {
		what  string
		x     Image
		c     Clock
		class string
		want  api.Errno
	}{
		{"no class", example(), exampleClock(), "", api.ErrKind},
		{"a class of lengths", example(), exampleClock(), "centimetres", api.ErrKind},
		{"a class of lengths, for nobody", image(1, "."), exampleClock(), "centimetres", api.ErrKind},
		{"a class of lengths, too late", example(), clockOf("863999999", "1"), "centimetres", api.ErrKind},
		{"all just in time", example(), clockOf("863999994", "1"), "exact", api.OK},
		{"the last one too late by 1", example(), clockOf("863999995", "1"), "exact", api.ErrLarge},
		{"the last one just too late", example(), clockOf("863999994", "1000001/1000000"), "exact", api.ErrLarge},
		{"all too late", example(), clockOf("863999999", "1"), "exact", api.ErrLarge},
		{"far too late", example(), clockOf("863999999", "863999999"), "exact", api.ErrLarge},
		{"nobody too late", image(1, ".", "a"), clockOf("863999999", "1"), "exact", api.OK},
		{"hundredths just in time", example(), clockOf("863999895", "1"), "hundredths", api.OK},
		{"hundredths too late", example(), clockOf("863999896", "1"), "hundredths", api.ErrLarge},
		{"tenths just in time", example(), clockOf("863998995", "1"), "tenths", api.OK},
		{"tenths too late", example(), clockOf("863998996", "1"), "tenths", api.ErrLarge},
	} {
		l, e := Result(x.x, x.c, x.class)
		check(t, x.what, e, x.want)
		if e != api.OK {
			checkNothing(t, x.what, l)
		}
	}
}

// resultOf returns the lines of an image, as the chapter says it.
func resultOf(x Image, c Clock, step int) []Line {
	var lines []Line
	for letter := 'A'; letter <= 'Z'; letter++ {
		if at := firstIn(x, byte(letter)); at >= 0 {
			end := ceiling(beginning(c, at+1))
			lines = append(lines, Line{Athlete: string(letter), Mark: timeOf((end + step - 1) / step * step)})
		}
	}
	var sorted []Line
	for place := 1; place <= len(lines); place++ {
		for _, line := range lines {
			lesser := 0
			for _, other := range lines {
				if other.Mark.Value < line.Mark.Value {
					lesser++
				}
			}
			if lesser+1 == place {
				line.Place = place
				sorted = append(sorted, line)
			}
		}
	}
	return sorted
}

// firstIn returns the first column with a byte, or -1.
func firstIn(x Image, letter byte) int {
	for i, column := range x.Columns {
		for _, b := range []byte(column) {
			if b == letter {
				return i
			}
		}
	}
	return -1
}

func TestRandomResult(t *testing.T) {
	r := rand.New(rand.NewSource(4))
	for range 1000 {
		x, c := randomImage(r), randomClock(r)
		for class, step := range map[string]int{"exact": 1, "hundredths": 100, "tenths": 1000} {
			l, e := Result(x, c, class)
			check(t, "Result", l, resultOf(x, c, step))
			check(t, "Result", e, api.OK)
		}
	}
}

// TestResultWithManyDigits checks that the readings of a result may have too many digits for numbers.
func TestResultWithManyDigits(t *testing.T) {
	x := image(2, "..", "A.", ".B", "..", "..", "..", "C.", "..", "..", "D.", ".E")
	without := 0
	for _, c := range longClocks() {
		if _, e := Reading(x, c, "E"); e != api.OK {
			without++
		}
		l, e := Result(x, c, "exact")
		if ceiling(beginning(c, 11)) > 863999999 {
			check(t, "a result too late", e, api.ErrLarge)
			checkNothing(t, "a result too late", l)
			continue
		}
		check(t, "Result", l, resultOf(x, c, 1))
		check(t, "Result", e, api.OK)
	}
	if without < 4 {
		t.Errorf("%d clocks give no readings", without)
	}
}
