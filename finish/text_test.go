package finish

import (
	"strings"
	"testing"

	"stadion/api"
)

// stripes returns an image with so many columns, each one different from its neighbours.
func stripes(rows, columns int) Image {
	x := Image{Rows: rows}
	for i := range columns {
		x.Columns = append(x.Columns, strings.Repeat(string("aB."[i%3]), rows))
	}
	return x
}

func TestPack(t *testing.T) {
	for _, x := range []struct {
		x    Image
		want string
	}{
		{example(), "1 ...\n1 .a.\n1 aA.\n1 .Ab\n2 .BB\n"},
		{image(1, "."), "1 .\n"},
		{image(1, repeated("A", 10)...), "10 A\n"},
		{image(2, repeated("Ab", 4096)...), "4096 Ab\n"},
		{image(1, "A", ".", "A", "A"), "1 A\n1 .\n2 A\n"},
		{image(2, "Aa", "aA", "aA", "Aa"), "1 Aa\n2 aA\n1 Aa\n"},
	} {
		s, e := Pack(x.x)
		check(t, "Pack", s, x.want)
		check(t, "Pack", e, api.OK)
	}
}

func TestErrorsOfPack(t *testing.T) {
	checkOfImage(t, "Pack", func(x Image) (any, api.Errno) { return Pack(x) })
	// a line of a column of 61 rows has 64 bytes, with ten columns one more
	just := stripes(61, 64)
	s, e := Pack(just)
	check(t, "4096 bytes", e, api.OK)
	check(t, "4096 bytes", len(s), 4096)
	ten := image(61, append(repeated(just.Columns[0], 9), just.Columns...)...)
	s, e = Pack(ten)
	check(t, "4097 bytes", e, api.ErrLong)
	checkNothing(t, "4097 bytes", s)
	s, e = Pack(stripes(64, 4096))
	check(t, "the longest text", e, api.ErrLong)
	checkNothing(t, "the longest text", s)
}

func TestUnpack(t *testing.T) {
	for _, x := range []struct {
		text string
		want Image
	}{
		{"1 ...\n1 .a.\n1 aA.\n1 .Ab\n2 .BB\n", example()},
		{"1 .\n", image(1, ".")},
		{"1 .\n1 a\n", image(1, ".", "a")},
		{"1 A\n2 A\n1 A\n", image(1, "A", "A", "A", "A")},
		{"4096 z\n", image(1, repeated("z", 4096)...)},
		{"4095 Z\n1 .\n", image(1, append(repeated("Z", 4095), ".")...)},
		{"10 Ab\n100 ..\n", image(2, append(repeated("Ab", 10), repeated("..", 100)...)...)},
		{"2 " + strings.Repeat(".", 64) + "\n", image(64, repeated(strings.Repeat(".", 64), 2)...)},
	} {
		got, at, e := Unpack(x.text)
		check(t, "Unpack", got, x.want)
		check(t, "the place", at, 0)
		check(t, "Unpack", e, api.OK)
	}
}

func TestErrorsOfUnpack(t *testing.T) {
	for _, x := range []struct {
		what, text string
		at         int
		want       api.Errno
	}{
		{"nothing", "", 0, api.ErrTorn},
		{"no line feed", "1 .", 0, api.ErrTorn},
		{"no line feed at the end", "1 .\n1 .", 0, api.ErrTorn},
		{"no line feed behind a wrong line", "?\n1 .", 0, api.ErrTorn},
		{"4096 bytes", strings.Repeat("1 "+strings.Repeat("A", 61)+"\n", 64), 0, api.OK},
		{"4097 bytes", "1" + strings.Repeat("1 "+strings.Repeat("A", 61)+"\n", 64), 0, api.ErrLong},
		{"4097 bytes without a line feed", strings.Repeat("?", 4097), 0, api.ErrLong},
		{"4096 bytes without a line feed", strings.Repeat("?", 4096), 0, api.ErrTorn},
		{"an empty line", "\n", 1, api.ErrSyntax},
		{"an empty line behind", "1 .\n\n", 2, api.ErrSyntax},
		{"an empty line between", "1 .\n\n1 .\n", 2, api.ErrSyntax},
		{"no blank", "1\n", 1, api.ErrSyntax},
		{"no blank in between", "1.\n", 1, api.ErrSyntax},
		{"no column", "1 \n", 1, api.ErrSyntax},
		{"no integer", " .\n", 1, api.ErrSyntax},
		{"a blank in front", " 1 .\n", 1, api.ErrSyntax},
		{"two blanks", "1  .\n", 1, api.ErrSyntax},
		{"a blank behind", "1 . \n", 1, api.ErrSyntax},
		{"a blank in a column", "1 . .\n", 1, api.ErrSyntax},
		{"another word in front", "a .\n", 1, api.ErrSyntax},
		{"a sign", "+1 .\n", 1, api.ErrSyntax},
		{"an integer below 0", "-1 .\n", 1, api.ErrSyntax},
		{"a fraction", "1/2 .\n", 1, api.ErrSyntax},
		{"a colon", "1: .\n", 1, api.ErrSyntax},
		{"a zero in front", "01 .\n", 1, api.ErrSyntax},
		{"two zeros", "00 .\n", 1, api.ErrSyntax},
		{"a tab instead of a blank", "1\t.\n", 1, api.ErrSyntax},
		{"9 digits", "999999999 .\n", 1, api.ErrMany},
		{"10 digits", "1000000000 .\n", 1, api.ErrSyntax},
		{"30 digits", strings.Repeat("1", 30) + " .\n", 1, api.ErrSyntax},
		{"0 columns", "0 .\n", 1, api.ErrRange},
		{"0 columns behind", "1 .\n1 .\n0 .\n", 3, api.ErrRange},
		{"4097 columns", "4097 .\n", 1, api.ErrMany},
		{"4097 columns in two lines", "4000 .\n97 a\n", 2, api.ErrMany},
		{"4097 columns in many lines", "1 .\n4094 .\n1 .\n1 a\n1 .\n", 4, api.ErrMany},
		{"a column too short", "1 ..\n1 .\n", 2, api.ErrShape},
		{"a column too long", "1 .\n1 .\n1 ..\n", 3, api.ErrShape},
		{"a wrong pixel", "1 #\n", 1, api.ErrForm},
		{"a tab in a column", "1 \t\n", 1, api.ErrForm},
		{"a carriage return", "1 .\r\n", 1, api.ErrForm},
		{"a letter of two bytes", "1 ..\n1 é\n", 2, api.ErrForm},
		{"a wrong pixel behind", "1 ..\n3 aA\n1 .1\n", 3, api.ErrForm},
		{"64 rows", "1 " + strings.Repeat(".", 64) + "\n", 0, api.OK},
		{"65 rows", "1 " + strings.Repeat(".", 65) + "\n", 0, api.ErrRange},
		{"far too many rows", "1 " + strings.Repeat(".", 4000) + "\n", 0, api.ErrRange},
		{"65 rows, and a wrong line", "1 " + strings.Repeat(".", 65) + "\n1\n", 2, api.ErrSyntax},
		{"65 rows, and a wrong pixel", "1 " + strings.Repeat(".", 65) + "?\n", 1, api.ErrForm},
		{"a wrong pixel ahead of a wrong line", "1 .\n1 ?\n1\n", 2, api.ErrForm},
	} {
		got, at, e := Unpack(x.text)
		check(t, x.what, at, x.at)
		check(t, x.what, e, x.want)
		if e != api.OK {
			checkNothing(t, x.what, got)
		}
	}
}

func TestErrorsOfUnpackInOrder(t *testing.T) {
	for _, before := range []string{"", "1 ..\n"} {
		line := "0 ?"
		climb(t, "a line", line,
			func(line string) api.Errno {
				_, _, e := Unpack("1 AA\n" + before + line + "\n")
				return e
			},
			rung[string]{api.ErrRange, func(x *string) { *x = "04096 ?" }},
			rung[string]{api.ErrSyntax, func(x *string) { *x = "4096 ?" }},
			rung[string]{api.ErrMany, func(x *string) { *x = "4094 ?" }},
			rung[string]{api.ErrShape, func(x *string) { *x = "4094 .?" }},
			rung[string]{api.ErrForm, func(x *string) { *x = "4094 .a" }},
		)
	}
}
