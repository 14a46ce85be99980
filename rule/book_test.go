package rule

import (
	"slices"
	"strings"
	"testing"

	"stadion/api"
)

// bookOf returns a book over the attributes of the examples, with rules by their names and conditions.
func bookOf(texts ...string) Book {
	b := Book{Attributes: examples()}
	for i := 0; i < len(texts); i += 2 {
		b.Rules = append(b.Rules, Rule{texts[i], texts[i+1]})
	}
	return b
}

// exampleBook returns the book B of the chapter's examples.
func exampleBook() Book {
	return bookOf("youth", "age < 16", "junior", "age < 18", "senior", "category == 'senior'")
}

// wrongBook is a book with an error, and where it is.
type wrongBook struct {
	what   string
	b      Book
	number int
	at     int
	want   api.Errno
}

func wrongBooks() []wrongBook {
	many := Book{Attributes: examples()}
	for _, name := range numbered(33) {
		many.Rules = append(many.Rules, Rule{name, "#"})
	}
	list := []wrongBook{
		{"33 rules", many, 0, 0, api.ErrMany},
		{"no name", bookOf("", "#"), 0, 0, api.ErrName},
		{"a wrong name", bookOf("a", "true", "1a", "#"), 1, 0, api.ErrName},
		{"a name of 25 bytes", bookOf(strings.Repeat("a", 25), "true"), 0, 0, api.ErrName},
		{"a name twice", bookOf("a", "true", "b", "true", "a", "#"), 2, 0, api.ErrTwice},
		{"a wrong condition ahead of a wrong name", bookOf("a", "true", "b", "age <", "", "true"), 1, 5, api.ErrSyntax},
		{"a long condition", bookOf("a", "true", "b", strings.Repeat(" ", 4097)), 1, 0, api.ErrLong},
		{"an empty condition", bookOf("a", ""), 0, 0, api.ErrSyntax},
	}
	for _, x := range wrongConditions {
		b := Book{mixed(), []Rule{{"a", "true"}, {"b", "false"}, {"c", x.text}, {"a", "#"}}}
		list = append(list, wrongBook{x.text, b, 2, x.at, x.want})
	}
	for want, l := range wrongAttributes {
		list = append(list, wrongBook{"attributes", Book{l, many.Rules}, 0, 0, want})
	}
	return list
}

func TestCheckBook(t *testing.T) {
	full := Book{}
	for _, name := range numbered(32) {
		full.Rules = append(full.Rules, Rule{name, "true"})
	}
	for _, b := range []Book{{}, exampleBook(), full, bookOf("if", "true", "age", "true", "junior", "true"), {Attributes: tooWide()[1], Rules: []Rule{{"a", "w0 == w1"}}}} {
		if number, at, e := CheckBook(b); number != 0 || at != 0 || e != api.OK {
			t.Errorf("CheckBook(%v): got %d, %d and %v", b, number, at, e)
		}
	}
	for _, x := range wrongBooks() {
		if number, at, e := CheckBook(x.b); number != x.number || at != x.at || e != x.want {
			t.Errorf("%s: got %d, %d and %v, want %d, %d and %v", x.what, number, at, e, x.number, x.at, x.want)
		}
	}
}

func TestClasses(t *testing.T) {
	for _, x := range []struct {
		c    []int
		want []string
	}{{[]int{0, 15}, []string{"youth", "junior"}}, {[]int{0, 17}, []string{"junior"}}, {[]int{0, 18}, nil}, {[]int{1, 14}, []string{"youth", "junior", "senior"}}, {[]int{1, 20}, []string{"senior"}}} {
		if l, e := Classes(exampleBook(), x.c); !slices.Equal(l, x.want) || e != api.OK {
			t.Errorf("at %v: got %v and %v, want %v", x.c, l, e, x.want)
		}
	}
	if l, e := Classes(bookOf("b", "true", "a", "true"), []int{0, 14}); !slices.Equal(l, []string{"b", "a"}) || e != api.OK {
		t.Errorf("the order of the book: got %v and %v", l, e)
	}
	if l, e := Classes(Book{Attributes: tooWide()[0], Rules: []Rule{{"a", "a == b"}}}, []int{5, 5}); !slices.Equal(l, []string{"a"}) || e != api.OK {
		t.Errorf("of more than MaxCases cases: got %v and %v", l, e)
	}
	checkCaseErrors(t, "Classes", func(c []int) api.Errno {
		l, e := Classes(Book{mixed(), []Rule{{"a", "true"}}}, c)
		if len(l) > 0 {
			t.Errorf("%v beside the error %v", l, e)
		}
		return e
	})
}

func TestGap(t *testing.T) {
	for _, x := range []struct {
		b    Book
		want []int
	}{{exampleBook(), []int{0, 18}}, {bookOf(), []int{0, 14}}, {bookOf("a", "age < 17", "b", "age > 17", "c", "category == 'junior'"), []int{1, 17}}, {bookOf("a", "false"), []int{0, 14}}, {bookOf("a", "category == 'junior' or age < 20"), []int{1, 20}}, {Book{}, nil}} {
		if c, e := Gap(x.b); !slices.Equal(c, x.want) || e != api.OK {
			t.Errorf("Gap(%v): got %v and %v, want %v", x.b.Rules, c, e, x.want)
		}
	}
	for _, b := range []Book{bookOf("a", "true"), bookOf("a", "age < 18", "b", "false", "c", "age >= 18"), {Rules: []Rule{{"a", "true"}}}} {
		if c, e := Gap(b); len(c) > 0 || e != api.ErrNone {
			t.Errorf("Gap(%v): got %v and %v", b.Rules, c, e)
		}
	}
}

func TestOverlap(t *testing.T) {
	for _, x := range []struct {
		b    Book
		i, j int
		want []int
	}{
		{exampleBook(), 0, 1, []int{0, 14}},
		{bookOf("a", "age == 20", "b", "age == 14", "c", "age == 14", "d", "age == 20 and category == 'senior'"), 0, 3, []int{1, 20}}, // later than the overlap of 1 and 2
		{bookOf("a", "false", "b", "age > 15", "c", "age < 15", "d", "age > 18", "e", "age in 16..18"), 1, 3, []int{0, 19}},
		{bookOf("a", "age == 20", "b", "category == 'senior'", "c", "true"), 0, 1, []int{1, 20}}, // 0 and 2 in an earlier case
		{Book{Rules: []Rule{{"a", "true"}, {"b", "false"}, {"c", "true"}}}, 0, 2, nil},
	} {
		if i, j, c, e := Overlap(x.b); i != x.i || j != x.j || !slices.Equal(c, x.want) || e != api.OK {
			t.Errorf("Overlap(%v): got %d, %d, %v and %v, want %d, %d, %v", x.b.Rules, i, j, c, e, x.i, x.j, x.want)
		}
	}
	for _, b := range []Book{{}, bookOf(), bookOf("a", "true"), bookOf("a", "age < 18", "b", "age >= 18", "c", "false")} {
		if i, j, c, e := Overlap(b); i != 0 || j != 0 || len(c) > 0 || e != api.ErrNone {
			t.Errorf("Overlap(%v): got %d, %d, %v and %v", b.Rules, i, j, c, e)
		}
	}
}

func TestDead(t *testing.T) {
	for _, x := range []struct {
		b    Book
		want []int
	}{{exampleBook(), nil}, {bookOf(), nil}, {bookOf("a", "false", "b", "true", "c", "age < 14", "d", "age == 20 and category == 'senior'"), []int{0, 2}}, {Book{Rules: []Rule{{"a", "true"}, {"b", "false"}}}, []int{1}}} {
		if l, e := Dead(x.b); !slices.Equal(l, x.want) || e != api.OK {
			t.Errorf("Dead(%v): got %v and %v, want %v", x.b.Rules, l, e, x.want)
		}
	}
}

func TestBookErrors(t *testing.T) {
	functions := map[string]func(b Book) ([]int, api.Errno){
		"Gap":  Gap,
		"Dead": Dead,
		"Overlap": func(b Book) ([]int, api.Errno) {
			i, j, c, e := Overlap(b)
			if e != api.OK && (i != 0 || j != 0) {
				t.Errorf("Overlap: %d and %d beside the error %v", i, j, e)
			}
			return c, e
		},
	}
	for what, f := range functions {
		for _, x := range wrongBooks() {
			if c, e := f(x.b); len(c) > 0 || e != x.want {
				t.Errorf("%s, %s: got %v and %v, want %v", what, x.what, c, e, x.want)
			}
		}
		for _, l := range tooWide() {
			for _, condition := range []string{"true", "false"} {
				if c, e := f(Book{l, []Rule{{"a", condition}, {"b", condition}}}); len(c) > 0 || e != api.ErrLimit {
					t.Errorf("%s of too many cases: got %v and %v", what, c, e)
				}
			}
			if _, e := f(Book{l, []Rule{{"a", "#"}}}); e != api.ErrSyntax {
				t.Errorf("%s of too many cases and a wrong rule: got %v", what, e)
			}
		}
		if _, e := f(Book{most(), []Rule{{"a", "one == 0"}, {"b", "c == 127"}}}); e == api.ErrLimit {
			t.Errorf("%s of MaxCases cases: got %v", what, e)
		}
	}
	for _, x := range wrongBooks() {
		if l, e := Classes(x.b, []int{-9}); len(l) > 0 || e != x.want {
			t.Errorf("Classes, %s: got %v and %v, want %v", x.what, l, e, x.want)
		}
	}
}
