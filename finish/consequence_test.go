package finish

import (
	"math/big"
	"math/rand"
	"strconv"
	"strings"
	"testing"

	"stadion/api"
	"stadion/mark"
)

// randomImage returns an image with few different columns, so that some stand side by side.
func randomImage(r *rand.Rand) Image {
	x := Image{Rows: 1 + r.Intn(4)}
	var some []string
	for range 1 + r.Intn(5) {
		column := make([]byte, x.Rows)
		for i := range column {
			column[i] = "....abcyzABCDYZ"[r.Intn(15)]
		}
		some = append(some, string(column))
	}
	for range 1 + r.Intn(20) {
		x.Columns = append(x.Columns, some[r.Intn(len(some))])
	}
	return x
}

// shortest returns the least number of bytes of a text of the columns, by trying all ways to divide them into lines.
func shortest(columns []string) int {
	least := make([]int, len(columns)+1)
	for to := 1; to <= len(columns); to++ {
		least[to] = 1 << 30
		for from := to - 1; from >= 0 && columns[from] == columns[to-1]; from-- {
			line := strconv.Itoa(to-from) + " " + columns[from] + "\n"
			least[to] = min(least[to], least[from]+len(line))
		}
	}
	return least[len(columns)]
}

func TestPackedAndUnpacked(t *testing.T) {
	r := rand.New(rand.NewSource(7))
	for range 1000 {
		x := randomImage(r)
		s, e := Pack(x)
		check(t, "Pack", e, api.OK)
		check(t, "the shortest text", len(s), shortest(x.Columns))
		again, at, e := Unpack(s)
		check(t, "Unpack", again, x)
		check(t, "the place", at, 0)
		check(t, "Unpack", e, api.OK)
		// runs that could be one
		long, _, e := Unpack("1 " + x.Columns[0] + "\n" + s)
		check(t, "a column more", long, Image{x.Rows, append([]string{x.Columns[0]}, x.Columns...)})
		check(t, "a column more", e, api.OK)
	}
}

func TestMirroredTwice(t *testing.T) {
	r := rand.New(rand.NewSource(8))
	for range 300 {
		x := randomImage(r)
		m, _ := Mirrored(x)
		for i, column := range m.Columns {
			check(t, "a column", column, x.Columns[len(x.Columns)-1-i])
		}
		again, e := Mirrored(m)
		check(t, "mirrored twice", again, x)
		check(t, "Mirrored", e, api.OK)
	}
}

// TestStretchedReadings checks that the readings have the same beginnings by a clock with shorter columns.
func TestStretchedReadings(t *testing.T) {
	r := rand.New(rand.NewSource(9))
	for range 500 {
		x, c, times := randomImage(r), randomClock(r), 1+r.Intn(5)
		s, e := Stretched(x, times)
		check(t, "Stretched", e, api.OK)
		shorter := c
		shorter.Step, _ = mark.Div(c.Step, integer(times))
		torsos, _ := Torsos(x)
		same, _ := Torsos(s)
		check(t, "the torsos", same, torsos)
		for _, athlete := range torsos {
			before, _ := Reading(x, c, athlete)
			behind, e := Reading(s, shorter, athlete)
			check(t, "the beginning", behind.Low, before.Low)
			check(t, "Reading", e, api.OK)
		}
	}
}

// TestAthletesOfImages checks torsos, first columns and readings, and whom they separate.
func TestAthletesOfImages(t *testing.T) {
	r := rand.New(rand.NewSource(10))
	for range 500 {
		x, c := randomImage(r), randomClock(r)
		var torsos []string
		var l []api.Span
		var columns []int
		for letter := byte('A'); letter <= 'Z'; letter++ {
			want := firstIn(x, letter)
			at, e := First(x, string(letter))
			if want < 0 {
				check(t, "nobody", e, api.ErrNone)
				continue
			}
			check(t, "First", at, want)
			check(t, "First", e, api.OK)
			s, e := Reading(x, c, string(letter))
			check(t, "Reading", s, spanOf(textOf(beginning(c, at)), textOf(beginning(c, at+1))))
			check(t, "Reading", e, api.OK)
			torsos, l, columns = append(torsos, string(letter)), append(l, s), append(columns, at)
		}
		got, e := Torsos(x)
		check(t, "Torsos", got, torsos)
		check(t, "Torsos", e, api.OK)
		checkSeparated(t, l, columns)
	}
}

// checkSeparated checks that readings are separated by their first columns, and that an earlier one has no greater official mark.
func checkSeparated(t *testing.T, l []api.Span, columns []int) {
	t.Helper()
	for i, a := range l {
		for j, b := range l {
			n, e := Separated(a, b)
			check(t, "Separated", e, api.OK)
			check(t, "in the same column", n == 0, columns[i] == columns[j])
			if n >= 0 {
				continue
			}
			for _, class := range []string{"exact", "hundredths", "tenths"} {
				earlier, _ := Official(a, class)
				later, _ := Official(b, class)
				if earlier.Value > later.Value {
					t.Errorf("%v has the mark %v, %v has %v", a, earlier, b, later)
				}
			}
		}
	}
}

// TestOneColumnLater checks that an image that begins a column later has all first columns less by one.
func TestOneColumnLater(t *testing.T) {
	r := rand.New(rand.NewSource(11))
	for range 500 {
		later := randomImage(r)
		torsos, _ := Torsos(later)
		x := Image{later.Rows, append([]string{strings.Repeat("a", later.Rows)}, later.Columns...)}
		for _, athlete := range torsos {
			at, _ := First(x, athlete)
			less, e := First(later, athlete)
			check(t, "First", less, at-1)
			check(t, "First", e, api.OK)
		}
	}
}

// TestClasses checks that marks are rounded upwards, and in tenths no less than in hundredths.
func TestClasses(t *testing.T) {
	r := rand.New(rand.NewSource(12))
	for range 1000 {
		high := big.NewRat(1+r.Int63n(300000), 1+r.Int63n(20))
		s := spanOf("0", textOf(high))
		exact, _ := Official(s, "exact")
		hundredths, _ := Official(s, "hundredths")
		tenths, e := Official(s, "tenths")
		check(t, "Official", e, api.OK)
		check(t, "exact", exact, timeOf(ceiling(high)))
		check(t, "hundredths", hundredths, timeOf((ceiling(high)+99)/100*100))
		check(t, "tenths", tenths, timeOf((ceiling(high)+999)/1000*1000))
		if tenths.Value < hundredths.Value || hundredths.Value < exact.Value {
			t.Errorf("%v has %v, %v and %v", high, exact, hundredths, tenths)
		}
	}
}

// TestMiddleWatch checks that the middle one is between both others, in any order.
func TestMiddleWatch(t *testing.T) {
	r := rand.New(rand.NewSource(13))
	for range 500 {
		l := []int{1 + r.Intn(9000), 1 + r.Intn(9000), 1 + r.Intn(9000)}
		m, e := Watch(l)
		check(t, "Watch", e, api.OK)
		lesser, greater := 0, 0
		for _, n := range l {
			one, _ := Watch([]int{n})
			if one.Value <= m.Value {
				lesser++
			}
			if one.Value >= m.Value {
				greater++
			}
		}
		if lesser < 2 || greater < 2 {
			t.Errorf("the middle one of %v is %v", l, m)
		}
		r.Shuffle(3, func(i, j int) { l[i], l[j] = l[j], l[i] })
		again, _ := Watch(l)
		check(t, "another order", again, m)
	}
}
