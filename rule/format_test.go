package rule

import (
	"strings"
	"testing"

	"stadion/api"
)

func TestFormat(t *testing.T) {
	for text, want := range map[string]string{
		"not(age<18)or age in{16,17}":                       "not age < 18 or age in {16, 17}",
		"(age<16 or age<17)and not(true and false)":         "(age < 16 or age < 17) and not (true and false)",
		"(a==1 or b==2)or c==3":                             "a == 1 or b == 2 or c == 3",
		"a==1 or(b==2 or(c==3 or d==4))":                    "a == 1 or b == 2 or c == 3 or d == 4",
		"(a==1 and b==2)and((c==3)and d==4)":                "a == 1 and b == 2 and c == 3 and d == 4",
		"a==1 or b==2 and c==3 or d==4":                     "a == 1 or b == 2 and c == 3 or d == 4",
		"(a==1 or b==2)and(c==3 or d==4)":                   "(a == 1 or b == 2) and (c == 3 or d == 4)",
		"a==1 or(b==2 and c==3)":                            "a == 1 or b == 2 and c == 3",
		"a==1 and(b==2 or(c==3 and(d==4)))":                 "a == 1 and (b == 2 or c == 3 and d == 4)",
		"if (if a==1 then b==2) then if c==3 then d==4":     "if (if a == 1 then b == 2) then if c == 3 then d == 4",
		"if(a==1)then(if b==2 then c==3)":                   "if a == 1 then if b == 2 then c == 3",
		"if((if true then(false)))then((true))":             "if (if true then false) then true",
		"if(a==1 or b==2)then(c==3 or d==4)":                "if a == 1 or b == 2 then c == 3 or d == 4",
		"(if true then false)or true":                       "(if true then false) or true",
		"true and(if true then false)":                      "true and (if true then false)",
		"not(if true then false)":                           "not (if true then false)",
		"(if true then false or true)":                      "if true then false or true",
		"not(a==1 or b==2)":                                 "not (a == 1 or b == 2)",
		"not((a==1)and(b==2))":                              "not (a == 1 and b == 2)",
		"not(a==1)and b==2":                                 "not a == 1 and b == 2",
		"not not(a in 1 .. 2)":                              "not not a in 1..2",
		"not(not(true))":                                    "not not true",
		"((true))":                                          "true",
		"false":                                             "false",
		"  a   in   {  -1  ,'b',  3 }  ":                    "a in {-1, 'b', 3}",
		"a in-3..-1":                                        "a in -3..-1",
		"a in{1}":                                           "a in {1}",
		"a!='in'or a<b or a<=-1 or a>'x'or a>=0 or a in{0}": "a != 'in' or a < b or a <= -1 or a > 'x' or a >= 0 or a in {0}",
	} {
		s, at, e := Format(text)
		if s != want || at != 0 || e != api.OK {
			t.Errorf("Format(%q): got %q, %d and %v, want %q", text, s, at, e, want)
		}
		if again, _, _ := Format(s); again != s {
			t.Errorf("Format(%q): got %q", s, again)
		}
	}
}

// wrongSyntax has texts of tokens with the byte of the first one that cannot stand there, or the length of the text.
var wrongSyntax = map[string]int{
	"age <": 5, "age < ": 6, "": 0, "   ": 3, "age < 3 age": 8, "3 < age": 0, "'x' == a": 0, "(true": 5, "true)": 4, "()": 1, ")": 0,
	"true and if true then true": 9, "true or if true then true": 8, "not if true then true": 4, "if if true then true then true": 3,
	"if true": 7, "if true and": 11, "if true then": 12, "if then true": 3, "then": 0, "true then true": 5, "if true then true then true": 18,
	"if (true then true": 9, "if true or (if true) then true": 19,
	"true true": 5, "true false": 5, "not": 3, "not not": 7, "not and": 4, "and": 0, "true and": 8, "true and or true": 9, "true or or": 8, "or true": 0,
	"a": 1, "a b": 2, "a not in 1..2": 2, "a 3": 2, "a == == 3": 5, "a == in": 5, "a == true": 5, "a == (3)": 5, "a == {1}": 5, "a == b == c": 7, "a == 1..2": 6, "a = = b": 2,
	"true == a": 5, "a == 1 == 2": 7, "a in": 4, "a in b": 5, "a in 'x'": 5, "a in 1": 6, "a in 1 2": 7, "a in 1..": 8, "a in 1..b": 8, "a in 1..'x'": 8, "a in 1..2..3": 9, "a in (1..2)": 5,
	"a in {": 6, "a in {}": 6, "a in {1": 7, "a in {1,": 8, "a in {1,}": 8, "a in {,1}": 6, "a in {1 2}": 8, "a in {b}": 6, "a in {1, b}": 9, "a in {1..2}": 7, "a in {{1}}": 6, "a in {1, true}": 9,
	"a 'or' b": 2, "true 'and' true": 5, "'not' true": 0, "(a == 1": 7, "((true)": 7, "(true) (true)": 7, "a == 1, b == 2": 6, ".. 1": 0, "{1}": 0, "a..b": 1,
}

func TestSyntax(t *testing.T) {
	for text, want := range wrongSyntax {
		if s, at, e := Format(text); s != "" || at != want || e != api.ErrSyntax {
			t.Errorf("Format(%q): got %q, %d and %v, want the byte %d", text, s, at, e, want)
		}
		if at, e := CheckCondition(nil, text); at != want || e != api.ErrSyntax {
			t.Errorf("CheckCondition(%q): got %d and %v, want the byte %d", text, at, e, want)
		}
	}
	for text, want := range wrongPieces() {
		// the wrong piece is named even behind a token that cannot stand there
		if s, at, e := Format("))" + text); s != "" || at != want+2 || e != api.ErrSyntax {
			t.Errorf("Format(%q): got %q, %d and %v, want the byte %d", "))"+text, s, at, e, want+2)
		}
	}
	if s, at, e := Format(strings.Repeat(")", 4097)); s != "" || at != 0 || e != api.ErrLong {
		t.Errorf("4097 bytes: got %q, %d and %v", s, at, e)
	}
}

// compact returns a condition whose normal form has 9 bytes for each of so many comparisons, and the bytes of the last one; it is shorter itself.
func compact(n int, last string) string {
	return strings.Repeat("a<1or ", n) + last
}

func TestFormatLong(t *testing.T) {
	s, at, e := Format(compact(454, "a<123456"))
	if len(s) != 4096 || at != 0 || e != api.OK {
		t.Errorf("4096 bytes: got %d bytes, %d and %v", len(s), at, e)
	}
	long := compact(454, "a<1234567")
	if s, at, e := Format(long); s != "" || at != 0 || e != api.ErrLong {
		t.Errorf("4097 bytes: got %q, %d and %v", s, at, e)
	}
	// only Format has a normal form as its result
	l := []Attribute{{Name: "a"}}
	if at, e := CheckCondition(l, long); at != 0 || e != api.OK {
		t.Errorf("CheckCondition: got %d and %v", at, e)
	}
	if holds, e := Eval(l, long, []int{0}); !holds || e != api.OK {
		t.Errorf("Eval: got %v and %v", holds, e)
	}
}

func TestFormatDeep(t *testing.T) {
	deep := strings.Repeat("(", 2046) + "true" + strings.Repeat(")", 2046)
	if s, _, e := Format(deep); s != "true" || e != api.OK {
		t.Errorf("parentheses: got %q and %v", s, e)
	}
	if s, at, e := Format(strings.Repeat("(", 4096)); s != "" || at != 4096 || e != api.ErrSyntax {
		t.Errorf("parentheses that are not closed: got %q, %d and %v", s, at, e)
	}
	nots := strings.Repeat("not ", 1023) + "true"
	if s, _, e := Format(nots); s != nots || e != api.OK {
		t.Errorf("negations: got %q and %v", s, e)
	}
	if holds, e := Eval(nil, nots, nil); holds || e != api.OK {
		t.Errorf("an odd number of negations: got %v and %v", holds, e)
	}
}
