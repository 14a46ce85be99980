package finish

import (
	"strings"
	"testing"

	"stadion/api"
)

func TestCheckImage(t *testing.T) {
	for _, x := range []struct {
		what string
		x    Image
		want api.Errno
	}{
		{"the example", example(), api.OK},
		{"one pixel", image(1, "."), api.OK},
		{"all letters", image(52, "ABCDEFGHIJKLMNOPQRSTUVWXYZabcdefghijklmnopqrstuvwxyz"), api.OK},
		{"64 rows", image(64, strings.Repeat("a", 64)), api.OK},
		{"65 rows", image(65, strings.Repeat("a", 65)), api.ErrRange},
		{"no rows", image(0, ""), api.ErrRange},
		{"rows below 0", image(-1, "."), api.ErrRange},
		{"far too many rows", image(1<<63-1, "."), api.ErrRange},
		{"nothing", Image{}, api.ErrRange},
		{"no columns", image(1), api.ErrEmpty},
		{"4096 columns", image(1, repeated("A", 4096)...), api.OK},
		{"4097 columns", image(1, repeated("A", 4097)...), api.ErrMany},
		{"4097 wrong columns", image(1, repeated("", 4097)...), api.ErrMany},
		{"a column too short", image(2, "..", "."), api.ErrShape},
		{"a column too long", image(2, "..", "...", ".."), api.ErrShape},
		{"an empty column", image(1, ""), api.ErrShape},
		{"a digit", image(3, "...", ".1."), api.ErrForm},
		{"a blank", image(3, ".. "), api.ErrForm},
		{"a line feed", image(3, "\n.."), api.ErrForm},
		{"a letter of two bytes", image(2, "é"), api.ErrForm},
		{"a letter of two bytes in one row", image(1, "é"), api.ErrShape},
		{"the byte before A", image(1, "@"), api.ErrForm},
		{"the byte after Z", image(1, "["), api.ErrForm},
		{"the byte before a", image(1, "`"), api.ErrForm},
		{"the byte after z", image(1, "{"), api.ErrForm},
		{"the byte before the point", image(1, "-"), api.ErrForm},
		{"the byte after the point", image(1, "/"), api.ErrForm},
		{"the byte 0", image(1, "\x00"), api.ErrForm},
		{"the byte 255", image(1, "\xff"), api.ErrForm},
		{"a wrong pixel, then a wrong column", image(1, "?", ".."), api.ErrForm},
		{"a wrong column, then a wrong pixel", image(1, "..", "?"), api.ErrShape},
	} {
		check(t, x.what, CheckImage(x.x), x.want)
	}
}

func TestErrorsOfImagesInOrder(t *testing.T) {
	climb(t, "an image", Image{Rows: 65}, CheckImage,
		rung[Image]{api.ErrRange, func(x *Image) { x.Rows = 2 }},
		rung[Image]{api.ErrEmpty, func(x *Image) { x.Columns = repeated("?", 4097) }},
		rung[Image]{api.ErrMany, func(x *Image) { x.Columns = []string{"..", "?", "?"} }},
		rung[Image]{api.ErrShape, func(x *Image) { x.Columns[1] = ".?" }},
		rung[Image]{api.ErrForm, func(x *Image) { x.Columns[1] = ".A" }},
		rung[Image]{api.ErrShape, func(x *Image) { x.Columns[2] = "?." }},
		rung[Image]{api.ErrForm, func(x *Image) { x.Columns[2] = "a." }},
	)
	check(t, "too many rows ahead of too many columns", CheckImage(Image{65, repeated("", 4097)}), api.ErrRange)
}

// checkOfImage checks that a function returns the errors of an image first, and nothing beside them.
func checkOfImage(t *testing.T, what string, f func(x Image) (any, api.Errno)) {
	t.Helper()
	for want, x := range map[api.Errno]Image{
		api.ErrRange: {},
		api.ErrEmpty: image(1),
		api.ErrMany:  image(1, repeated(".", 4097)...),
		api.ErrShape: image(1, ".."),
		api.ErrForm:  image(1, "?"),
	} {
		got, e := f(x)
		check(t, what+" of a wrong image", e, want)
		checkNothing(t, what, got)
	}
}

func TestMirrored(t *testing.T) {
	for _, x := range []struct{ x, want Image }{
		{example(), image(3, ".BB", ".BB", ".Ab", "aA.", ".a.", "...")},
		{image(2, "Aa"), image(2, "Aa")},
		{image(2, "Aa", "bB"), image(2, "bB", "Aa")},
		{image(1, "A", "b", "."), image(1, ".", "b", "A")},
	} {
		m, e := Mirrored(x.x)
		check(t, "Mirrored", m, x.want)
		check(t, "Mirrored", e, api.OK)
	}
	checkOfImage(t, "Mirrored", func(x Image) (any, api.Errno) { return Mirrored(x) })
}

func TestStretched(t *testing.T) {
	for _, x := range []struct {
		x     Image
		times int
		want  Image
	}{
		{example(), 1, example()},
		{example(), 2, image(3, "...", "...", ".a.", ".a.", "aA.", "aA.", ".Ab", ".Ab", ".BB", ".BB", ".BB", ".BB")},
		{image(1, "A", "."), 3, image(1, "A", "A", "A", ".", ".", ".")},
		{image(2, "Ab"), 4096, image(2, repeated("Ab", 4096)...)},
		{image(2, repeated("Ab", 2048)...), 2, image(2, repeated("Ab", 4096)...)},
		{image(2, repeated("Ab", 4096)...), 1, image(2, repeated("Ab", 4096)...)},
	} {
		s, e := Stretched(x.x, x.times)
		check(t, "Stretched", s, x.want)
		check(t, "Stretched", e, api.OK)
	}
}

func TestErrorsOfStretched(t *testing.T) {
	checkOfImage(t, "Stretched", func(x Image) (any, api.Errno) { return Stretched(x, 0) })
	checkRange(t, "Stretched", 1, 4096, func(n int) (any, api.Errno) { return Stretched(image(1, "."), n) })
	for _, x := range []struct {
		columns, times int
		want           api.Errno
	}{
		{6, 682, api.OK}, {6, 683, api.ErrMany}, {1, 4096, api.OK}, {2, 2048, api.OK}, {2, 2049, api.ErrMany},
		{241, 17, api.ErrMany}, {2, 4096, api.ErrMany}, {2, 4097, api.ErrRange}, {4096, 1, api.OK}, {4096, 2, api.ErrMany}, {4096, 4096, api.ErrMany}, {4096, 0, api.ErrRange},
	} {
		s, e := Stretched(image(1, repeated(".", x.columns)...), x.times)
		check(t, "Stretched", e, x.want)
		if e != api.OK {
			checkNothing(t, "Stretched", s)
		} else {
			check(t, "the number of columns", len(s.Columns), x.columns*x.times)
		}
	}
}

func TestTorsos(t *testing.T) {
	const capitals = "ABCDEFGHIJKLMNOPQRSTUVWXYZ"
	for _, x := range []struct {
		what string
		x    Image
		want string
	}{
		{"the example", example(), "AB"},
		{"background", image(2, "..", ".."), ""},
		{"small letters", image(2, "ab", "z."), ""},
		{"all in one column", image(26, capitals), capitals},
		{"one after another, the last one first", image(1, strings.Split("ZYXWVUTSRQPONMLKJIHGFEDCBA", "")...), capitals},
		{"the first and the last letter", image(2, ".Z", "A."), "AZ"},
		{"many times", image(2, "MM", "MC", "CM"), "CM"},
		{"a torso without the rest, and the rest without a torso", image(2, "Qr"), "Q"},
	} {
		l, e := Torsos(x.x)
		check(t, x.what, l, strings.Split(x.want, ""))
		check(t, x.what, e, api.OK)
	}
	checkOfImage(t, "Torsos", func(x Image) (any, api.Errno) { return Torsos(x) })
}

func TestFirst(t *testing.T) {
	x := image(3, "a..", "..Z", "Q.Z", "AAA", "..A", "zM.")
	for athlete, want := range map[string]int{"A": 3, "Z": 1, "Q": 2, "M": 5} {
		at, e := First(x, athlete)
		check(t, "the first column of "+athlete, at, want)
		check(t, "First", e, api.OK)
	}
	at, e := First(image(1, "K", "."), "K")
	check(t, "the column 0", at, 0)
	check(t, "the column 0", e, api.OK)
	at, e = First(image(1, append(repeated("k", 4095), "K")...), "K")
	check(t, "the last column", at, 4095)
	check(t, "the last column", e, api.OK)
}

func TestErrorsOfFirst(t *testing.T) {
	checkOfImage(t, "First", func(x Image) (any, api.Errno) { return First(x, "") })
	for _, x := range []struct {
		athlete string
		want    api.Errno
	}{
		{"A", api.OK}, {"C", api.ErrNone}, {"Z", api.ErrNone}, {"", api.ErrName}, {"a", api.ErrName}, {"AB", api.ErrName}, {"A ", api.ErrName},
		{".", api.ErrName}, {"@", api.ErrName}, {"[", api.ErrName}, {"É", api.ErrName}, {"\xff", api.ErrName}, {"1", api.ErrName},
	} {
		at, e := First(example(), x.athlete)
		check(t, "First of "+x.athlete, e, x.want)
		if e != api.OK {
			checkNothing(t, "First", at)
		}
	}
	// a small letter is another part of the body
	_, e := First(image(1, "c"), "C")
	check(t, "First without the torso", e, api.ErrNone)
}

func TestMemoryOfImages(t *testing.T) {
	x := image(1, "A", "b", "C")
	mirrored, _ := Mirrored(x)
	stretched, _ := Stretched(x, 1)
	clear(mirrored.Columns)
	clear(stretched.Columns)
	check(t, "the argument", x, image(1, "A", "b", "C"))
	mirrored, _ = Mirrored(x)
	stretched, _ = Stretched(x, 1)
	clear(x.Columns)
	check(t, "a mirrored image", mirrored, image(1, "C", "b", "A"))
	check(t, "a stretched image", stretched, image(1, "A", "b", "C"))
}
