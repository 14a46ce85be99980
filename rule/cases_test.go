package rule

import (
	"slices"
	"testing"

	"stadion/api"
)

// most returns attributes with MaxCases cases, the first one of which has a single value.
func most() []Attribute {
	return []Attribute{{Name: "one"}, {Name: "a", Words: numbered(16)}, {Name: "b", Words: numbered(16)}, {Name: "c", Low: -128, High: 127}}
}

// tooWide returns attributes with little more than MaxCases cases, and with as many as possible.
func tooWide() [][]Attribute {
	wide := make([]Attribute, 8)
	for i, name := range numbered(8) {
		wide[i] = Attribute{Name: name, High: 999}
	}
	return [][]Attribute{{{Name: "a", High: 936}, {Name: "b", High: 69}}, wide} // 937 * 70 = 65590
}

func TestCount(t *testing.T) {
	for _, x := range []struct {
		l    []Attribute
		s    string
		want int
	}{
		{examples(), example, 7}, {examples(), "true", 14}, {examples(), "false", 0}, {examples(), "age < 14", 0}, {examples(), "age != 20", 12},
		{nil, "true", 1}, {nil, "false", 0}, {mixed(), "a == b", 24}, {mixed(), "m < n", 3 * 2 * 9},
		{most(), "true", 65536}, {most(), "c > -128", 65280}, {most(), "one == 0 and a == b and c == 0", 16},
	} {
		if n, e := Count(x.l, x.s); n != x.want || e != api.OK {
			t.Errorf("Count(%q): got %d and %v, want %d", x.s, n, e, x.want)
		}
	}
}

func TestWitness(t *testing.T) {
	for _, x := range []struct {
		l    []Attribute
		s    string
		want []int
	}{
		{examples(), example, []int{0, 14}}, {examples(), "age > 16 and category == 'senior'", []int{1, 17}}, {examples(), "age == 20", []int{0, 20}}, {examples(), "category == 'senior'", []int{1, 14}},
		{nil, "true", nil}, {mixed(), "m == n and a == b and m > 0", []int{0, 1, 1, 1}}, {mixed(), "true", []int{0, 0, -2, 0}}, {most(), "a == 'w15' and b == 'w15' and c == 127", []int{0, 15, 15, 127}},
	} {
		if c, e := Witness(x.l, x.s); !slices.Equal(c, x.want) || e != api.OK {
			t.Errorf("Witness(%q): got %v and %v, want %v", x.s, c, e, x.want)
		}
	}
	for _, s := range []string{"age < 14", "false", "age == 21", "category == 'junior' and category == 'senior'"} {
		if c, e := Witness(examples(), s); len(c) > 0 || e != api.ErrNone {
			t.Errorf("Witness(%q): got %v and %v", s, c, e)
		}
	}
	if c, e := Witness(nil, "false"); len(c) > 0 || e != api.ErrNone {
		t.Errorf("no attributes: got %v and %v", c, e)
	}
}

func TestDiffer(t *testing.T) {
	for _, x := range []struct {
		a, b string
		want []int
	}{
		{example, "age < 18", []int{1, 14}}, {"age < 18", example, []int{1, 14}}, {"true", "false", []int{0, 14}}, {"age < 20", "age < 21", []int{0, 20}}, {"age in 14..20", "category == 'junior' or age != 19", []int{1, 19}},
	} {
		if c, e := Differ(examples(), x.a, x.b); !slices.Equal(c, x.want) || e != api.OK {
			t.Errorf("Differ(%q, %q): got %v and %v, want %v", x.a, x.b, c, e, x.want)
		}
	}
	for _, x := range [][2]string{{"true", "true"}, {"age < 16", "not age >= 16"}, {"age < 14", "age > 20"}, {"category != 'junior'", "category == 'senior'"}, {example, example}} {
		if c, e := Differ(examples(), x[0], x[1]); len(c) > 0 || e != api.ErrNone {
			t.Errorf("Differ(%q): got %v and %v", x, c, e)
		}
	}
}

func TestImplies(t *testing.T) {
	for _, x := range []struct {
		a, b string
		want bool
	}{
		{"age == 15", "age in 14..16", true}, {"age in 14..16", "age == 15", false}, {"false", "age == 15", true}, {"age == 15", "true", true}, {"true", "age == 15", false}, {"age == 15", "age == 16", false}, {"true", "true", true}, {"true", "false", false},
		{example, "category == 'senior' or age < 18", true}, {"category == 'senior' or age < 18", example, false}, {"age > 19", "age == 20", true},
	} {
		if got, e := Implies(examples(), x.a, x.b); got != x.want || e != api.OK {
			t.Errorf("Implies(%q, %q): got %v and %v", x.a, x.b, got, e)
		}
	}
}

func TestCasesErrors(t *testing.T) {
	count := func(l []Attribute, s string) api.Errno {
		n, e := Count(l, s)
		if e != api.OK && n != 0 {
			t.Errorf("Count: %d beside the error %v", n, e)
		}
		return e
	}
	list := func(c []int, e api.Errno) api.Errno {
		if e != api.OK && len(c) > 0 {
			t.Errorf("%v beside the error %v", c, e)
		}
		return e
	}
	implies := func(l []Attribute, a, b string) api.Errno {
		is, e := Implies(l, a, b)
		if e != api.OK && is {
			t.Errorf("Implies: true beside the error %v", e)
		}
		return e
	}
	compile := func(l []Attribute, s string) api.Errno {
		d, e := Compile(l, s)
		if e != api.OK && (d.Root != 0 || len(d.Nodes) > 0) {
			t.Errorf("Compile: %v beside the error %v", d, e)
		}
		return e
	}
	for what, f := range map[string]func(l []Attribute, s string) api.Errno{
		"Count": count, "Compile": compile,
		"Witness":                     func(l []Attribute, s string) api.Errno { return list(Witness(l, s)) },
		"Differ, first":               func(l []Attribute, s string) api.Errno { return list(Differ(l, s, "#")) },
		"Differ, second":              func(l []Attribute, s string) api.Errno { return list(Differ(l, "false", s)) },
		"Implies, first":              func(l []Attribute, s string) api.Errno { return implies(l, s, "#") },
		"Implies, second":             func(l []Attribute, s string) api.Errno { return implies(l, "false", s) },
		"Count of too many cases":     func(l []Attribute, s string) api.Errno { return count(widened(l), s) },
		"Witness of too many cases":   func(l []Attribute, s string) api.Errno { return list(Witness(widened(l), s)) },
		"Differ of too many cases":    func(l []Attribute, s string) api.Errno { return list(Differ(widened(l), s, s)) },
		"Implies of too many cases":   func(l []Attribute, s string) api.Errno { return implies(widened(l), s, s) },
		"Compiling of too many cases": func(l []Attribute, s string) api.Errno { return compile(widened(l), s) },
	} {
		checkOrder(t, what, func(l []Attribute, s string, _ []int) api.Errno { return f(l, s) })
	}
	for _, l := range tooWide() {
		for what, e := range map[string]api.Errno{
			"Count": count(l, "true"), "Witness": list(Witness(l, "false")), "Differ": list(Differ(l, "true", "true")), "Implies": implies(l, "true", "true"), "Compile": compile(l, "true"),
		} {
			if e != api.ErrLimit {
				t.Errorf("%s: got %v for too many cases", what, e)
			}
		}
	}
}

// widened returns attributes without an error with another one, so that they have too many cases, and all others as they are.
func widened(l []Attribute) []Attribute {
	if CheckAttributes(l) != api.OK {
		return l
	}
	return slices.Concat(l, []Attribute{{Name: "w_1", High: 999}, {Name: "w_2", High: 999}})
}
