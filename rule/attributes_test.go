package rule

import (
	"math"
	"slices"
	"strconv"
	"strings"
	"testing"

	"stadion/api"
)

// examples returns the attributes A of the chapter's examples.
func examples() []Attribute {
	return []Attribute{{Name: "category", Words: []string{"junior", "senior"}}, {Name: "age", Low: 14, High: 20}}
}

// numbered returns as many names, each one different.
func numbered(n int) []string {
	names := make([]string, n)
	for i := range names {
		names[i] = "w" + strconv.Itoa(i)
	}
	return names
}

// binary returns as many attributes of two values.
func binary(n int) []Attribute {
	l := make([]Attribute, n)
	for i, name := range numbered(n) {
		l[i] = Attribute{Name: name, High: 1}
	}
	return l
}

// wrongAttributes has for each error of attributes some with it; the last ones of a list would have another error.
var wrongAttributes = map[api.Errno][]Attribute{
	api.ErrMany:  append(binary(8), Attribute{Name: "9"}),
	api.ErrName:  {{Name: "in"}, {Name: "a", Low: 2, High: 1}},
	api.ErrTwice: {{Name: "a"}, {Name: "a", Low: 2, High: 1}},
	api.ErrRange: {{Name: "a", Low: 1000000000, High: 2}, {Name: "a"}},
	api.ErrOrder: {{Name: "a", Low: 2, High: 1}, {Name: "if"}},
}

func TestCheckAttributes(t *testing.T) {
	long := strings.Repeat("a", 24)
	for _, x := range []struct {
		what string
		l    []Attribute
		want api.Errno
	}{
		{"none", nil, api.OK},
		{"the example", examples(), api.OK},
		{"8", binary(8), api.OK},
		{"9", binary(9), api.ErrMany},
		{"no name", []Attribute{{}}, api.ErrName},
		{"a digit in front", []Attribute{{Name: "1a"}}, api.ErrName},
		{"24 bytes", []Attribute{{Name: long}}, api.OK},
		{"25 bytes", []Attribute{{Name: long + "a"}}, api.ErrName},
		{"almost a key", []Attribute{{Name: "If"}, {Name: "ifs"}, {Name: "i"}}, api.OK},
		{"a name twice", []Attribute{{Name: "a"}, {Name: "b"}, {Name: "a"}}, api.ErrTwice},
		{"a name twice, of different kinds", []Attribute{{Name: "a"}, {Name: "a", Words: []string{"x"}}}, api.ErrTwice},
		{"16 words", []Attribute{{Name: "a", Words: numbered(16)}}, api.OK},
		{"17 words", []Attribute{{Name: "a", Words: numbered(17)}}, api.ErrMany},
		{"17 words, one of them wrong", []Attribute{{Name: "a", Words: append([]string{"-"}, numbered(16)...)}}, api.ErrMany},
		{"a word that is no name", []Attribute{{Name: "a", Words: []string{"x", ""}}}, api.ErrName},
		{"a word twice", []Attribute{{Name: "a", Words: []string{"x", "y", "x"}}}, api.ErrTwice},
		{"a word twice, ahead of a wrong one", []Attribute{{Name: "a", Words: []string{"x", "x", "-"}}}, api.ErrTwice},
		{"a wrong word ahead of one twice", []Attribute{{Name: "a", Words: []string{"x", "-", "x"}}}, api.ErrName},
		{"a key as a word", []Attribute{{Name: "a", Words: []string{"if", "not", "true"}}}, api.OK},
		{"a name as a word", []Attribute{{Name: "a", Words: []string{"a"}}}, api.OK},
		{"words of two attributes", []Attribute{{Name: "a", Words: []string{"x"}}, {Name: "b", Words: []string{"x"}}}, api.OK},
		{"with words any integers", []Attribute{{Name: "a", Words: []string{"x"}, Low: math.MaxInt, High: math.MinInt}}, api.OK},
		{"the least and the greatest integers", []Attribute{{Name: "a", Low: -999999999, High: -999999000}, {Name: "b", Low: 999999000, High: 999999999}}, api.OK},
		{"too low", []Attribute{{Name: "a", Low: -1000000000, High: 0}}, api.ErrRange},
		{"too high", []Attribute{{Name: "a", Low: 0, High: 1000000000}}, api.ErrRange},
		{"High too low", []Attribute{{Name: "a", Low: 0, High: -1000000000}}, api.ErrRange},
		{"Low too high", []Attribute{{Name: "a", Low: 1000000000}}, api.ErrRange},
		{"the extremes of all integers", []Attribute{{Name: "a", Low: math.MinInt, High: math.MaxInt}}, api.ErrRange},
		{"Low above High", []Attribute{{Name: "a", Low: 1, High: 0}}, api.ErrOrder},
		{"1000 integers", []Attribute{{Name: "a", Low: -499, High: 500}}, api.OK},
		{"1001 integers", []Attribute{{Name: "a", Low: -500, High: 500}}, api.ErrMany},
		{"as many as possible", []Attribute{{Name: "a", Low: -999999999, High: 999999999}}, api.ErrMany},
		{"more cases than MaxCases", []Attribute{{Name: "a", High: 999}, {Name: "b", High: 999}}, api.OK},
	} {
		if e := CheckAttributes(x.l); e != x.want {
			t.Errorf("%s: got %v, want %v", x.what, e, x.want)
		}
	}
	for _, key := range []string{"if", "then", "and", "or", "not", "in", "true", "false"} {
		if e := CheckAttributes([]Attribute{{Name: key}}); e != api.ErrName {
			t.Errorf("the key %s as a name: got %v", key, e)
		}
	}
	for want, l := range wrongAttributes {
		if e := CheckAttributes(l); e != want {
			t.Errorf("%v: got %v, want %v", l, e, want)
		}
	}
}

func TestCheckCase(t *testing.T) {
	for _, x := range []struct {
		l    []Attribute
		c    []int
		want api.Errno
	}{
		{nil, nil, api.OK}, {nil, []int{0}, api.ErrShape},
		{examples(), []int{0, 14}, api.OK}, {examples(), []int{1, 20}, api.OK},
		{examples(), nil, api.ErrShape}, {examples(), []int{0}, api.ErrShape}, {examples(), []int{9, 14, 0}, api.ErrShape},
		{examples(), []int{2, 14}, api.ErrRange}, {examples(), []int{-1, 14}, api.ErrRange}, {examples(), []int{0, 13}, api.ErrRange}, {examples(), []int{0, 21}, api.ErrRange},
		{examples(), []int{0, math.MinInt}, api.ErrRange}, {examples(), []int{math.MaxInt, 14}, api.ErrRange},
		{[]Attribute{{Name: "a", Words: []string{"x"}, Low: 5, High: 9}}, []int{0}, api.OK}, {[]Attribute{{Name: "a", Words: []string{"x"}, Low: 5, High: 9}}, []int{5}, api.ErrRange},
		{[]Attribute{{Name: "a", Low: -2, High: -1}}, []int{-2}, api.OK}, {[]Attribute{{Name: "a", Low: -2, High: -1}}, []int{0}, api.ErrRange},
		{[]Attribute{{Name: "a"}}, []int{0}, api.OK},
	} {
		if e := CheckCase(x.l, x.c); e != x.want {
			t.Errorf("CheckCase(%v, %v): got %v, want %v", x.l, x.c, e, x.want)
		}
	}
	for want, l := range wrongAttributes {
		if e := CheckCase(l, []int{-1}); e != want {
			t.Errorf("CheckCase(%v): got %v, want %v", l, e, want)
		}
	}
}

// TestCasesInOrder checks that all cases are gone through, in their order.
func TestCasesInOrder(t *testing.T) {
	l := []Attribute{{Name: "a", Low: -1, High: 1}, {Name: "b", Words: []string{"x"}}, {Name: "c", Words: []string{"x", "y"}}}
	var got [][]int
	for c := range cases(l) {
		got = append(got, slices.Clone(c))
	}
	want := [][]int{{-1, 0, 0}, {-1, 0, 1}, {0, 0, 0}, {0, 0, 1}, {1, 0, 0}, {1, 0, 1}}
	if !slices.EqualFunc(got, want, slices.Equal) {
		t.Errorf("got %v, want %v", got, want)
	}
}
