package rule

import (
	"slices"
	"testing"

	"stadion/api"
)

func TestExplain(t *testing.T) {
	for _, x := range []struct {
		c    []int
		want []Part
	}{
		{[]int{0, 17}, []Part{{0, 20, true}, {25, 33, true}}},
		{[]int{1, 16}, []Part{{0, 20, false}, {62, 71, false}}},
		{[]int{0, 18}, []Part{{25, 33, false}, {37, 57, false}}},
		{[]int{1, 18}, []Part{{37, 57, true}, {62, 71, true}}},
	} {
		if l, e := Explain(examples(), example, x.c); !slices.Equal(l, x.want) || e != api.OK {
			t.Errorf("the example at %v: got %v and %v, want %v", x.c, l, e, x.want)
		}
	}
	yes, no := func(from, to int) Part { return Part{from, to, true} }, func(from, to int) Part { return Part{from, to, false} }
	for _, x := range []struct {
		text string
		want []Part
	}{ // in the case x, z, 0, 0
		{"true", nil}, {"false", nil}, {"not false", nil}, {"true and true", nil}, {"if true then false", nil},
		{"  ( m==0 )  ", []Part{yes(4, 8)}}, {"a  ==  'x'  ", []Part{yes(0, 10)}}, {"m==n ", []Part{yes(0, 4)}}, {"a == b", []Part{no(0, 6)}}, {"m in 1 .. 2 ", []Part{no(0, 11)}}, {"m in { 0 , 1 } ", []Part{yes(0, 14)}}, {"a in {'y'}", []Part{no(0, 10)}},
		{"not m == 0", []Part{yes(4, 10)}}, {"not not m == 1", []Part{no(8, 14)}},
		{"m == 0 and n == 0", []Part{yes(0, 6), yes(11, 17)}}, {"m == 1 and n == 1", []Part{no(0, 6)}}, {"m == 0 and n == 1 and a == b", []Part{no(11, 17)}},
		{"m == 1 or n == 1", []Part{no(0, 6), no(10, 16)}}, {"m == 0 or n == 0", []Part{yes(0, 6)}}, {"m == 1 or n == 0 or a == b", []Part{yes(10, 16)}},
		{"m == 0 and (n == 0 and m < 1)", []Part{yes(0, 6), yes(12, 18), yes(23, 28)}}, {"(m == 0 and n == 1) and m < 1", []Part{no(12, 18)}}, {"(m == 1 or n == 1) or m > 1", []Part{no(1, 7), no(11, 17), no(22, 27)}},
		{"true and m == 0", []Part{yes(9, 15)}}, {"false and m == 0", nil}, {"true or m == 0", nil}, {"m == 0 or true", []Part{yes(0, 6)}}, {"m == 1 or true", nil}, {"m == 1 and false", []Part{no(0, 6)}}, {"m == 0 and false", nil},
		{"not (m == 0 and n == 1)", []Part{no(16, 22)}}, {"not (m == 1 or n == 0)", []Part{yes(15, 21)}},
		{"if m == 1 then n == 1", []Part{no(3, 9)}}, {"if m == 0 then n == 0", []Part{yes(15, 21)}}, {"if m == 0 then n == 1", []Part{yes(3, 9), no(15, 21)}}, {"if m == 1 then n == 0", []Part{no(3, 9)}},
		{"if m == 0 and n == 0 then m == 1 or n == 1", []Part{yes(3, 9), yes(14, 20), no(26, 32), no(36, 42)}}, {"if m == 0 then if n == 1 then m == 1", []Part{no(18, 24)}}, {"if m == 0 then if n == 0 then m == 1", []Part{yes(3, 9), yes(18, 24), no(30, 36)}},
		{"if (if m == 0 then n == 1) then m == 1", []Part{yes(7, 13), no(19, 25)}}, {"m == 0 and (if m == 0 then n == 1)", []Part{yes(15, 21), no(27, 33)}}, {"m == 0 or m == 0", []Part{yes(0, 6)}},
	} {
		if l, e := Explain(mixed(), x.text, []int{0, 0, 0, 0}); !slices.Equal(l, x.want) || e != api.OK {
			t.Errorf("Explain(%q): got %v and %v, want %v", x.text, l, e, x.want)
		}
	}
}

func TestExplainErrors(t *testing.T) {
	f := func(l []Attribute, s string, c []int) api.Errno {
		parts, e := Explain(l, s, c)
		if len(parts) > 0 {
			t.Errorf("%v beside the error %v", parts, e)
		}
		return e
	}
	checkOrder(t, "Explain", f)
	checkCaseErrors(t, "Explain", func(c []int) api.Errno { return f(mixed(), "m == 0", c) })
}
