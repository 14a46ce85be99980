package finish

import (
	"iter"
	"strconv"
	"strings"

	"stadion/api"
)

const maxDigits = 9 // of an integer in the text of an image

// Pack returns the text of an image.
func Pack(x Image) (string, api.Errno) {
	if e := CheckImage(x); e != api.OK {
		return "", e
	}
	var text []byte
	for times, column := range runs(x.Columns) {
		text = strconv.AppendInt(text, int64(times), 10)
		text = append(text, ' ')
		text = append(text, column...)
		text = append(text, '\n')
	}
	if len(text) > api.MaxText {
		return "", api.ErrLong
	}
	return string(text), api.OK
}

// runs goes through the columns, equal ones that are side by side at once, with how many they are.
func runs(columns []string) iter.Seq2[int, string] {
	return func(yield func(times int, column string) bool) {
		for len(columns) > 0 {
			times := 1
			for times < len(columns) && columns[times] == columns[0] {
				times++
			}
			if !yield(times, columns[0]) {
				return
			}
			columns = columns[times:]
		}
	}
}

// Unpack returns the image with a text, or the number of the line with an error.
func Unpack(s string) (Image, int, api.Errno) {
	if len(s) > api.MaxText {
		return Image{}, 0, api.ErrLong
	}
	body, ends := strings.CutSuffix(s, "\n")
	if !ends {
		return Image{}, 0, api.ErrTorn
	}
	var r reader
	if at, e := firstOf(strings.Split(body, "\n"), r.read); e != api.OK {
		return Image{}, at, e
	}
	if r.image.Rows > api.MaxRows {
		return Image{}, 0, api.ErrRange
	}
	return r.image, 0, api.OK
}

// reader has the image of the lines that it has read.
type reader struct {
	image Image
}

// read adds the columns of a further line, or returns its error.
func (r *reader) read(line string) api.Errno {
	number, column, _ := strings.Cut(line, " ")
	if !isInteger(number) || column == "" || strings.Contains(column, " ") {
		return api.ErrSyntax
	}
	if len(r.image.Columns) == 0 {
		r.image.Rows = len(column) // the first line says how many bytes all columns have
	}
	times, _ := strconv.Atoi(number)
	e := first(
		when(times == 0, api.ErrRange),
		when(len(r.image.Columns)+times > api.MaxColumns, api.ErrMany),
		r.image.columnError(column),
	)
	if e == api.OK {
		r.image.add(times, column)
	}
	return e
}

// isInteger reports whether a text is a decimal integer without a sign, and without zeros in front.
func isInteger(text string) bool {
	for i := range len(text) {
		if text[i] < '0' || text[i] > '9' {
			return false
		}
	}
	return text == "0" || text != "" && text[0] != '0' && len(text) <= maxDigits
}
