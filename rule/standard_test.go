package rule

import (
	"strconv"
	"testing"

	"stadion/api"
)

func timeOf(n int) api.Mark   { return api.Mark{Kind: "time", Value: n} }
func lengthOf(n int) api.Mark { return api.Mark{Kind: "length", Value: n} }

// exampleStandards returns those of the examples, in another order than that of the book, and some for other disciplines.
func exampleStandards() []Standard {
	return []Standard{{"senior", "dash", timeOf(105000)}, {"youth", "jump", lengthOf(5000)}, {"junior", "dash", timeOf(110000)}, {"senior", "jump", lengthOf(6000)}, {"senior", "combined", api.Mark{Kind: "points", Value: 7000}}}
}

func TestDemanded(t *testing.T) {
	for _, x := range []struct {
		discipline string
		c          []int
		want       api.Mark
		e          api.Errno
	}{
		{"dash", []int{1, 17}, timeOf(110000), api.OK}, {"dash", []int{1, 15}, timeOf(110000), api.OK}, {"dash", []int{1, 18}, timeOf(105000), api.OK}, {"dash", []int{0, 14}, timeOf(110000), api.OK}, {"dash", []int{0, 18}, api.Mark{}, api.ErrNone},
		{"jump", []int{1, 15}, lengthOf(5000), api.OK}, {"jump", []int{1, 16}, lengthOf(6000), api.OK}, {"jump", []int{0, 16}, api.Mark{}, api.ErrNone},
		{"combined", []int{1, 14}, api.Mark{Kind: "points", Value: 7000}, api.OK}, {"Dash", []int{1, 17}, api.Mark{}, api.ErrNone}, {"if", []int{1, 17}, api.Mark{}, api.ErrNone},
	} {
		if m, e := Demanded(exampleBook(), exampleStandards(), x.discipline, x.c); m != x.want || e != x.e {
			t.Errorf("%s at %v: got %v and %v, want %v and %v", x.discipline, x.c, m, e, x.want, x.e)
		}
	}
	if m, e := Demanded(exampleBook(), nil, "dash", []int{1, 17}); m != (api.Mark{}) || e != api.ErrNone {
		t.Errorf("without standards: got %v and %v", m, e)
	}
	if m, e := Demanded(bookOf("dead", "false", "live", "true"), []Standard{{"dead", "dash", timeOf(1)}, {"live", "dash", timeOf(2)}}, "dash", []int{1, 17}); m != timeOf(2) || e != api.OK {
		t.Errorf("the first rule that holds: got %v and %v", m, e)
	}
	wide := Book{Attributes: tooWide()[0], Rules: []Rule{{"a", "true"}}}
	if m, e := Demanded(wide, []Standard{{"a", "dash", timeOf(1)}}, "dash", []int{0, 0}); m != timeOf(1) || e != api.OK {
		t.Errorf("of more than MaxCases cases: got %v and %v", m, e)
	}
}

func TestMeets(t *testing.T) {
	for _, x := range []struct {
		discipline string
		c          []int
		m          api.Mark
		want       bool
		e          api.Errno
	}{
		{"dash", []int{1, 17}, timeOf(110000), true, api.OK}, {"dash", []int{1, 17}, timeOf(110001), false, api.OK}, {"dash", []int{1, 17}, timeOf(109999), true, api.OK}, {"dash", []int{1, 18}, timeOf(109999), false, api.OK},
		{"dash", []int{1, 17}, api.Mark{Kind: "none", Reason: "DNS"}, false, api.OK}, {"dash", []int{1, 17}, lengthOf(9000), false, api.ErrKind}, {"jump", []int{1, 17}, timeOf(1), false, api.ErrKind}, {"combined", []int{1, 17}, timeOf(1), false, api.ErrKind},
		{"jump", []int{1, 14}, lengthOf(5000), true, api.OK}, {"jump", []int{1, 14}, lengthOf(4999), false, api.OK}, {"jump", []int{1, 14}, lengthOf(5001), true, api.OK}, {"jump", []int{1, 14}, api.Mark{Kind: "none", Reason: "NM"}, false, api.OK},
		{"combined", []int{1, 14}, api.Mark{Kind: "points", Value: 7000}, true, api.OK}, {"combined", []int{1, 14}, api.Mark{Kind: "points", Value: 6999}, false, api.OK},
		{"dash", []int{0, 18}, timeOf(1), false, api.ErrNone}, {"dash", []int{0, 18}, lengthOf(1), false, api.ErrNone}, {"dash", []int{0, 18}, api.Mark{Kind: "none", Reason: "DQ"}, false, api.ErrNone}, {"throw", []int{1, 17}, timeOf(1), false, api.ErrNone},
		{"dash", []int{0, 18}, timeOf(0), false, api.ErrRange}, {"dash", []int{1, 17}, api.Mark{Kind: "none"}, false, api.ErrForm}, {"dash", []int{1, 17}, api.Mark{}, false, api.ErrKind}, {"jump", []int{1, 14}, timeOf(0), false, api.ErrRange},
	} {
		if is, e := Meets(exampleBook(), exampleStandards(), x.discipline, x.c, x.m); is != x.want || e != x.e {
			t.Errorf("%s at %v, %v: got %v and %v, want %v and %v", x.discipline, x.c, x.m, is, e, x.want, x.e)
		}
	}
}

// wrongStandards has lists of standards for the book of the examples, with their errors.
func wrongStandards() map[string]struct {
	l    []Standard
	want api.Errno
} {
	good := exampleStandards()
	many := make([]Standard, 257)
	return map[string]struct {
		l    []Standard
		want api.Errno
	}{
		"257 standards":                 {many, api.ErrMany},
		"no such rule":                  {append(good, Standard{"adult", "1", api.Mark{}}), api.ErrUnknown},
		"no rule":                       {[]Standard{{"", "dash", timeOf(1)}}, api.ErrUnknown},
		"no discipline":                 {append(good, Standard{"youth", "", api.Mark{}}), api.ErrName},
		"a wrong discipline":            {append(good, Standard{"youth", "100m", api.Mark{}}), api.ErrName},
		"a mark of no kind":             {append(good, Standard{"youth", "dash", api.Mark{}}), api.ErrKind},
		"a mark with a wrong form":      {append(good, Standard{"youth", "dash", api.Mark{Kind: "none"}}), api.ErrForm},
		"a mark out of range":           {append(good, Standard{"youth", "dash", timeOf(0)}), api.ErrRange},
		"a wrong mark twice":            {append(good, Standard{"junior", "dash", timeOf(0)}), api.ErrRange},
		"a mark of the kind none":       {append(good, Standard{"youth", "dash", api.Mark{Kind: "none", Reason: "DNF"}}), api.ErrKind},
		"a mark of the kind none twice": {append(good, Standard{"junior", "dash", api.Mark{Kind: "none", Reason: "DNF"}}), api.ErrKind},
		"a standard twice":              {append(good, Standard{"junior", "dash", lengthOf(1)}), api.ErrTwice},
		"the first of two errors":       {append(good, Standard{"junior", "dash", timeOf(1)}, Standard{}), api.ErrTwice},
	}
}

func TestStandardErrors(t *testing.T) {
	check := func(what string, b Book, l []Standard, discipline string, c []int, want api.Errno) {
		t.Helper()
		if m, e := Demanded(b, l, discipline, c); m != (api.Mark{}) || e != want {
			t.Errorf("Demanded, %s: got %v and %v, want %v", what, m, e, want)
		}
		if is, e := Meets(b, l, discipline, c, api.Mark{Kind: "none"}); is || e != want {
			t.Errorf("Meets, %s: got %v and %v, want %v", what, is, e, want)
		}
	}
	for _, x := range wrongBooks() {
		check(x.what, x.b, make([]Standard, 257), "", nil, x.want)
	}
	for what, x := range wrongStandards() {
		check(what, exampleBook(), x.l, "", nil, x.want)
		check(what, exampleBook(), x.l, "dash", nil, x.want)
	}
	for _, discipline := range []string{"", "1", "a-b", "abcdefghijklmnopqrstuvwxy"} {
		check("the discipline", exampleBook(), exampleStandards(), discipline, nil, api.ErrName)
	}
	check("a short case", exampleBook(), exampleStandards(), "dash", []int{9}, api.ErrShape)
	check("a case out of range", exampleBook(), exampleStandards(), "dash", []int{1, 21}, api.ErrRange)
	full := make([]Standard, 256)
	for i := range full {
		full[i] = Standard{"youth", "d" + strconv.Itoa(i), timeOf(1 + i)}
	}
	if m, e := Demanded(exampleBook(), full, "d255", []int{0, 14}); m != timeOf(256) || e != api.OK {
		t.Errorf("256 standards: got %v and %v", m, e)
	}
}
