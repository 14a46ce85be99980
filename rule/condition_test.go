package rule

import (
	"strings"
	"testing"

	"stadion/api"
)

// example is the condition K of the chapter's examples.
const example = "category == 'junior' and age < 18 or category == 'senior' and age >= 18"

// mixed returns attributes of words in common, and of integers in common.
func mixed() []Attribute {
	return []Attribute{{Name: "a", Words: []string{"x", "y", "z"}}, {Name: "b", Words: []string{"z", "x"}}, {Name: "m", Low: -2, High: 1}, {Name: "n", Low: 0, High: 2}}
}

// wrongConditions has conditions over the attributes of mixed, with their errors and the bytes of them.
var wrongConditions = []struct {
	text string
	at   int
	want api.Errno
}{
	// the attribute that is asked for
	{"speed == 3", 0, api.ErrUnknown}, {"true or speed in 5..3", 8, api.ErrUnknown}, {"speed in {1, 1}", 0, api.ErrUnknown}, {"speed == other", 0, api.ErrUnknown}, {"A == 'x'", 0, api.ErrUnknown},
	// an operator
	{"m == speed", 5, api.ErrUnknown}, {"a == speed", 5, api.ErrUnknown}, {"a < speed", 4, api.ErrUnknown},
	{"m == 'x'", 5, api.ErrType}, {"m == a", 5, api.ErrType}, {"a == 3", 5, api.ErrType}, {"a == m", 5, api.ErrType}, {"a < 3", 4, api.ErrType}, {"a >= m", 5, api.ErrType}, {"m < 'none'", 4, api.ErrType}, {"m   !=   a", 9, api.ErrType},
	{"a < 'x'", 2, api.ErrType}, {"a <= 'x'", 2, api.ErrType}, {"a > 'x'", 2, api.ErrType}, {"a >= 'x'", 2, api.ErrType}, {"a < b", 2, api.ErrType}, {"a   > 'none'", 4, api.ErrType},
	{"a == 'none'", 5, api.ErrUnknown}, {"a != 'none'", 5, api.ErrUnknown}, {"b == 'y'", 5, api.ErrUnknown}, {"a == 'X'", 5, api.ErrUnknown},
	// a set
	{"m in {1, 'x'}", 9, api.ErrType}, {"a in {'x', 1}", 11, api.ErrType}, {"a in {1}", 6, api.ErrType}, {"m in {'x', 'x'}", 6, api.ErrType},
	{"a in {'x', 'none'}", 11, api.ErrUnknown}, {"b in {'y', 'y'}", 6, api.ErrUnknown},
	{"m in {1, 1}", 9, api.ErrTwice}, {"m in {1, 7, 0, 7, 1}", 15, api.ErrTwice}, {"a in {'x', 'y', 'x', 1}", 16, api.ErrTwice}, {"a in {'x', 1, 'x'}", 11, api.ErrType}, {"m in {-1, 1, -1}", 13, api.ErrTwice},
	// a range
	{"a in 1..2", 5, api.ErrType}, {"a in 2..1", 5, api.ErrType}, {"m in 5..3", 5, api.ErrOrder}, {"m in   -1..-2", 7, api.ErrOrder}, {"m in 0..-1", 5, api.ErrOrder},
	// the first one in the order of the text
	{"m == 1 and m in 2..1 or speed == 1", 16, api.ErrOrder}, {"m in {1, 1} and speed == 3", 9, api.ErrTwice}, {"if not (a == 'none') then speed == 1", 13, api.ErrUnknown}, {"if true then m == 1 and (n == 'x' or a == 1)", 30, api.ErrType},
	// those of the text itself ahead of all of them
	{"speed == 3 and", 14, api.ErrSyntax}, {"speed == 3 #", 11, api.ErrSyntax},
}

func TestCheckCondition(t *testing.T) {
	for _, x := range wrongConditions {
		if at, e := CheckCondition(mixed(), x.text); at != x.at || e != x.want {
			t.Errorf("CheckCondition(%q): got %d and %v, want %d and %v", x.text, at, e, x.at, x.want)
		}
	}
	for _, text := range []string{"true", "a == b", "b != a", "a == a", "m < n", "n >= m", "m == -999999999", "n in 100..200", "n in 5..5", "m in {-999999999, 999999999, 0}", "a in {'z', 'x', 'y'}", "a != 'y'", "m <= 999999999", "a in {'x'} or b in {'x'}", "m in {1} and m in {1}"} {
		if at, e := CheckCondition(mixed(), text); at != 0 || e != api.OK {
			t.Errorf("CheckCondition(%q): got %d and %v", text, at, e)
		}
	}
	for _, x := range []struct {
		text string
		at   int
		want api.Errno
	}{
		{"age <", 5, api.ErrSyntax}, {"age = 3", 4, api.ErrSyntax}, {"speed == 3", 0, api.ErrUnknown}, {"age == 'junior'", 7, api.ErrType}, {"category < 'senior'", 9, api.ErrType},
		{"category == 'x'", 12, api.ErrUnknown}, {"age in 5..3", 7, api.ErrOrder}, {"age in {15, 15}", 12, api.ErrTwice}, {example, 0, api.OK},
	} {
		if at, e := CheckCondition(examples(), x.text); at != x.at || e != x.want {
			t.Errorf("CheckCondition(%q): got %d and %v, want %d and %v", x.text, at, e, x.at, x.want)
		}
	}
	for want, l := range wrongAttributes {
		if at, e := CheckCondition(l, "true and #"); at != 0 || e != want {
			t.Errorf("CheckCondition(%v): got %d and %v, want %v", l, at, e, want)
		}
	}
	if at, e := CheckCondition(nil, strings.Repeat("#", 4097)); at != 0 || e != api.ErrLong {
		t.Errorf("4097 bytes: got %d and %v", at, e)
	}
}

func TestEval(t *testing.T) {
	for _, x := range []struct {
		text string
		c    []int
		want bool
	}{
		{"true", []int{0, 0, 0, 0}, true}, {"false", []int{0, 0, 0, 0}, false},
		{"a == 'x'", []int{0, 0, 0, 0}, true}, {"a == 'x'", []int{1, 0, 0, 0}, false}, {"a != 'x'", []int{0, 0, 0, 0}, false}, {"a != 'x'", []int{2, 0, 0, 0}, true},
		{"a == b", []int{0, 1, 0, 0}, true}, {"a == b", []int{0, 0, 0, 0}, false}, {"a == b", []int{2, 0, 0, 0}, true}, {"b != a", []int{2, 0, 0, 0}, false}, {"b != a", []int{1, 1, 0, 0}, true},
		{"m == n", []int{0, 0, 1, 1}, true}, {"m == n", []int{0, 0, 0, 1}, false}, {"m < n", []int{0, 0, 0, 1}, true}, {"m < n", []int{0, 0, 1, 1}, false}, {"m > n", []int{0, 0, 1, 0}, true}, {"n > m", []int{0, 0, 1, 0}, false},
		{"m == -1", []int{0, 0, -1, 0}, true}, {"m == -1", []int{0, 0, 1, 0}, false}, {"m != -1", []int{0, 0, -1, 0}, false}, {"m != -1", []int{0, 0, 0, 0}, true},
		{"m < 0", []int{0, 0, -1, 0}, true}, {"m < 0", []int{0, 0, 0, 0}, false}, {"m <= 0", []int{0, 0, 0, 0}, true}, {"m <= 0", []int{0, 0, 1, 0}, false},
		{"m > 0", []int{0, 0, 1, 0}, true}, {"m > 0", []int{0, 0, 0, 0}, false}, {"m >= 0", []int{0, 0, 0, 0}, true}, {"m >= 0", []int{0, 0, -1, 0}, false},
		{"m in -1..0", []int{0, 0, -1, 0}, true}, {"m in -1..0", []int{0, 0, 0, 0}, true}, {"m in -1..0", []int{0, 0, -2, 0}, false}, {"m in -1..0", []int{0, 0, 1, 0}, false},
		{"m in {1, -2}", []int{0, 0, 1, 0}, true}, {"m in {1, -2}", []int{0, 0, -2, 0}, true}, {"m in {1, -2}", []int{0, 0, -1, 0}, false}, {"m in {5}", []int{0, 0, 0, 0}, false},
		{"a in {'z', 'y'}", []int{1, 0, 0, 0}, true}, {"a in {'z', 'y'}", []int{0, 0, 0, 0}, false}, {"b in {'z'}", []int{0, 0, 0, 0}, true}, {"b in {'z'}", []int{0, 1, 0, 0}, false},
		{"not m == 0", []int{0, 0, 0, 0}, false}, {"not not m == 0", []int{0, 0, 0, 0}, true},
		{"true and true and false", []int{0, 0, 0, 0}, false}, {"true and true", []int{0, 0, 0, 0}, true}, {"false or false or true", []int{0, 0, 0, 0}, true}, {"false or false", []int{0, 0, 0, 0}, false},
		{"true or true and false", []int{0, 0, 0, 0}, true}, {"(true or true) and false", []int{0, 0, 0, 0}, false}, {"not true or true", []int{0, 0, 0, 0}, true}, {"not (true or true)", []int{0, 0, 0, 0}, false}, {"not false and false", []int{0, 0, 0, 0}, false},
		{"if false then false", []int{0, 0, 0, 0}, true}, {"if true then false", []int{0, 0, 0, 0}, false}, {"if true then true", []int{0, 0, 0, 0}, true}, {"if false then true", []int{0, 0, 0, 0}, true},
		{"if false or true then false or false", []int{0, 0, 0, 0}, false}, {"if true then if false then false", []int{0, 0, 0, 0}, true}, {"if (if true then false) then false", []int{0, 0, 0, 0}, true},
	} {
		if got, e := Eval(mixed(), x.text, x.c); got != x.want || e != api.OK {
			t.Errorf("Eval(%q, %v): got %v and %v", x.text, x.c, got, e)
		}
	}
	if got, e := Eval(nil, "true", nil); !got || e != api.OK {
		t.Errorf("the empty case: got %v and %v", got, e)
	}
	if got, e := Eval([]Attribute{{Name: "a", High: 999}, {Name: "b", High: 999}}, "a < b", []int{7, 8}); !got || e != api.OK {
		t.Errorf("one of 1000000 cases: got %v and %v", got, e)
	}
}

// checkOrder checks that a function returns the errors of attributes, of a condition and of a case, in this order.
func checkOrder(t *testing.T, what string, f func(l []Attribute, s string, c []int) api.Errno) {
	t.Helper()
	for want, l := range wrongAttributes {
		if e := f(l, "#", []int{-9}); e != want {
			t.Errorf("%s: got %v for attributes with the error %v", what, e, want)
		}
	}
	for _, x := range wrongConditions {
		if e := f(mixed(), x.text, []int{-9}); e != x.want {
			t.Errorf("%s, %q: got %v, want %v", what, x.text, e, x.want)
		}
	}
	if e := f(mixed(), strings.Repeat(" ", 4097), nil); e != api.ErrLong {
		t.Errorf("%s, a long condition: got %v", what, e)
	}
}

// checkCaseErrors checks that a function returns the errors of a case of mixed.
func checkCaseErrors(t *testing.T, what string, f func(c []int) api.Errno) {
	t.Helper()
	if e := f([]int{9, 9, 9}); e != api.ErrShape {
		t.Errorf("%s, a short case: got %v", what, e)
	}
	if e := f([]int{0, 0, 0, 3}); e != api.ErrRange {
		t.Errorf("%s, a case out of range: got %v", what, e)
	}
}

func TestEvalErrors(t *testing.T) {
	f := func(l []Attribute, s string, c []int) api.Errno {
		holds, e := Eval(l, s, c)
		if holds {
			t.Errorf("true beside the error %v", e)
		}
		return e
	}
	checkOrder(t, "Eval", f)
	checkCaseErrors(t, "Eval", func(c []int) api.Errno { return f(mixed(), "true", c) })
}
