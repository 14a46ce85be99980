package mark

import "stadion/api"

// knot is a breakpoint of a table as fractions.
type knot struct {
	x, y fraction
}

// CheckTable returns the first error of a table.
func CheckTable(t []api.Point) api.Errno {
	_, e := readTable(t)
	return e
}

func readTable(t []api.Point) ([]knot, api.Errno) {
	if len(t) == 0 {
		return nil, api.ErrEmpty
	}
	if len(t) > api.MaxBreaks {
		return nil, api.ErrMany
	}
	knots := make([]knot, len(t))
	for i, p := range t {
		x, y, e := readBoth(p.X, p.Y)
		if e != api.OK {
			return nil, e
		}
		if i > 0 && knots[i-1].x.compare(x) >= 0 {
			return nil, api.ErrOrder
		}
		knots[i] = knot{x, y}
	}
	return knots, api.OK
}

// Value returns the value of a table at a number.
func Value(t []api.Point, x api.Rat) (api.Rat, api.Errno) {
	knots, errorOfTable := readTable(t)
	at, errorOfX := read(x)
	if e := first(errorOfTable, errorOfX); e != api.OK {
		return "", e
	}
	return write(valueAt(knots, at))
}

func valueAt(knots []knot, x fraction) fraction {
	for i, k := range knots {
		if x.compare(k.x) > 0 {
			continue
		}
		if i == 0 {
			return k.y
		}
		return between(knots[i-1], k, x)
	}
	return knots[len(knots)-1].y
}

// between returns the value at x of the straight line through two breakpoints.
func between(a, b knot, x fraction) fraction {
	part := x.minus(a.x).over(b.x.minus(a.x))
	return a.y.plus(b.y.minus(a.y).times(part))
}
