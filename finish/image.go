package finish

import (
	"slices"
	"strings"

	"stadion/api"
)

// CheckImage returns the first error of an image, or OK.
func CheckImage(x Image) api.Errno {
	return first(
		rangeError(x.Rows, 1, api.MaxRows),
		when(len(x.Columns) == 0, api.ErrEmpty),
		listError(x.Columns, api.MaxColumns, x.columnError),
	)
}

// columnError returns the error of a column of an image with so many rows.
func (x Image) columnError(column string) api.Errno {
	return first(when(len(column) != x.Rows, api.ErrShape), when(!hasPixels(column), api.ErrForm))
}

// hasPixels reports whether all bytes of a column are letters or background.
func hasPixels(column string) bool {
	for i := range len(column) {
		if c := column[i]; c != '.' && !isCapital(c) && (c < 'a' || c > 'z') {
			return false
		}
	}
	return true
}

func isCapital(c byte) bool {
	return c >= 'A' && c <= 'Z'
}

// Mirrored returns an image from the other side.
func Mirrored(x Image) (Image, api.Errno) {
	if e := CheckImage(x); e != api.OK {
		return Image{}, e
	}
	return Image{x.Rows, reversed(x.Columns)}, api.OK
}

// reversed returns a new list in the other order.
func reversed[T any](l []T) []T {
	other := slices.Clone(l)
	slices.Reverse(other)
	return other
}

// Stretched returns an image with each column some times.
func Stretched(x Image, times int) (Image, api.Errno) {
	if e := first(CheckImage(x), rangeError(times, 1, api.MaxColumns)); e != api.OK {
		return Image{}, e
	}
	if times*len(x.Columns) > api.MaxColumns {
		return Image{}, api.ErrMany
	}
	stretched := Image{Rows: x.Rows}
	for _, column := range x.Columns {
		stretched.add(times, column)
	}
	return stretched, api.OK
}

// add adds a run of equal columns.
func (x *Image) add(times int, column string) {
	for range times {
		x.Columns = append(x.Columns, column)
	}
}

const letterCount = 26

// letters has a number for each capital letter.
type letters [letterCount]int

// nowhere is the first column of those whose torso no column has.
const nowhere = -1

func letterOf(i int) byte {
	return 'A' + byte(i)
}

// firstColumns returns the first columns of all letters.
func firstColumns(x Image) letters {
	var l letters
search:
	for i := range l {
		for at, column := range x.Columns {
			if strings.IndexByte(column, letterOf(i)) >= 0 {
				l[i] = at
				continue search
			}
		}
		l[i] = nowhere
	}
	return l
}

// Torsos returns the letters of the torsos of an image.
func Torsos(x Image) ([]string, api.Errno) {
	if e := CheckImage(x); e != api.OK {
		return nil, e
	}
	var torsos []string
	for i, at := range firstColumns(x) {
		if at != nowhere {
			torsos = append(torsos, string(letterOf(i)))
		}
	}
	return torsos, api.OK
}

// First returns the first column of a torso.
func First(x Image, athlete string) (int, api.Errno) {
	if e := first(CheckImage(x), athleteError(athlete)); e != api.OK {
		return 0, e
	}
	at := firstColumns(x)[athlete[0]-'A']
	if at == nowhere {
		return 0, api.ErrNone
	}
	return at, api.OK
}

func athleteError(athlete string) api.Errno {
	return when(len(athlete) != 1 || !isCapital(athlete[0]), api.ErrName)
}
