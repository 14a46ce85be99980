package rule

import (
	"slices"
	"testing"

	"stadion/api"
)

func sameDiagram(a, b Diagram) bool {
	return a.Root == b.Root && slices.EqualFunc(a.Nodes, b.Nodes, func(m, n Node) bool {
		return m.Attribute == n.Attribute && slices.Equal(m.Next, n.Next)
	})
}

func TestCompile(t *testing.T) {
	three := binary(3)
	for _, x := range []struct {
		l    []Attribute
		s    string
		want Diagram
	}{
		{examples(), example, Diagram{2, []Node{{0, []int{3, 4}}, {1, []int{1, 1, 1, 1, 0, 0, 0}}, {1, []int{0, 0, 0, 0, 1, 1, 1}}}}},
		{examples(), "true", Diagram{Root: 1}}, {examples(), "false", Diagram{}}, {examples(), "age < 14", Diagram{}}, {examples(), "if category == 'junior' then true", Diagram{Root: 1}}, {nil, "true", Diagram{Root: 1}}, {nil, "false", Diagram{}},
		{examples(), "age < 16 or category == 'junior' and age < 16", Diagram{2, []Node{{1, []int{1, 1, 0, 0, 0, 0, 0}}}}},
		{examples(), "category == 'senior'", Diagram{2, []Node{{0, []int{0, 1}}}}},
		{examples(), "category == 'senior' or age == 14", Diagram{2, []Node{{0, []int{3, 1}}, {1, []int{1, 0, 0, 0, 0, 0, 0}}}}},
		// the same rest is reached twice
		{three, "w0 == w1 and w2 == 1", Diagram{2, []Node{{0, []int{3, 5}}, {1, []int{4, 0}}, {2, []int{0, 1}}, {1, []int{0, 4}}}}},
		{three, "w0 == 0 and w1 == 1 or w0 == 1 and w1 == 1", Diagram{2, []Node{{1, []int{0, 1}}}}},
		// depth first: all behind the first number comes ahead of what the second one leads to
		{three, "w0 == 0 and (w1 == 0 and w2 == 0 or w1 == 1 and w2 == 1) or w0 == 1 and w2 == 0", Diagram{2, []Node{{0, []int{3, 4}}, {1, []int{4, 5}}, {2, []int{1, 0}}, {2, []int{0, 1}}}}},
		{three, "w0 == 0 and w2 == 1 or w0 == 1 and w1 == w2", Diagram{2, []Node{{0, []int{3, 4}}, {2, []int{0, 1}}, {1, []int{5, 3}}, {2, []int{1, 0}}}}},
		// attributes with the same numbers of the same nodes, and with a single value
		{three, "w0 == 0 and w1 == 0 or w0 == 1 and w2 == 0", Diagram{2, []Node{{0, []int{3, 4}}, {1, []int{1, 0}}, {2, []int{1, 0}}}}},
		{[]Attribute{{Name: "a"}, {Name: "b", High: 1}, {Name: "c", Words: []string{"x"}}}, "a == b", Diagram{2, []Node{{1, []int{1, 0}}}}},
	} {
		d, e := Compile(x.l, x.s)
		if !sameDiagram(d, x.want) || e != api.OK {
			t.Errorf("Compile(%q): got %v and %v, want %v", x.s, d, e, x.want)
		}
		if e := CheckDiagram(x.l, d); e != api.OK {
			t.Errorf("the diagram of %q: got %v", x.s, e)
		}
	}
}

func TestCompileMost(t *testing.T) {
	d, e := Compile(most(), "a == b and c == 127 or a != b and c < 0")
	if len(d.Nodes) != 1+16+2 || e != api.OK {
		t.Errorf("got %d nodes and %v", len(d.Nodes), e)
	}
	for i := range d.Nodes { // what is appended to one list is not in another one
		d.Nodes[i].Next = append(d.Nodes[i].Next, -1)[:len(d.Nodes[i].Next)]
	}
	if e := CheckDiagram(most(), d); e != api.OK {
		t.Errorf("after an append: got %v", e)
	}
}

func TestCheckDiagram(t *testing.T) {
	ones, zeros := []int{1, 1, 1, 1, 1, 1, 1}, []int{0, 0, 0, 0, 0, 0, 0}
	many := make([]Node, 65537)
	for i := range many {
		many[i] = Node{1, zeros}
	}
	for _, x := range []struct {
		what string
		d    Diagram
		want api.Errno
	}{
		{"false", Diagram{}, api.OK}, {"true", Diagram{Root: 1}, api.OK},
		{"a Root that is not there", Diagram{Root: 2}, api.ErrUnknown}, {"a negative Root", Diagram{Root: -1}, api.ErrUnknown}, {"the Root behind the last one", Diagram{3, []Node{{1, zeros}}}, api.ErrUnknown},
		{"a Root that is not the first one", Diagram{3, []Node{{1, zeros}, {0, []int{2, 1}}}}, api.OK},
		{"nodes that are not reached", Diagram{1, []Node{{1, zeros}, {1, zeros}}}, api.OK},
		{"65536 nodes", Diagram{65537, many[:65536]}, api.OK}, {"65537 nodes", Diagram{-1, many}, api.ErrMany},
		{"a wrong Root ahead of a wrong node", Diagram{9, []Node{{7, nil}}}, api.ErrUnknown},
		{"no such attribute", Diagram{0, []Node{{2, nil}}}, api.ErrUnknown}, {"a negative attribute", Diagram{0, []Node{{-1, nil}}}, api.ErrUnknown},
		{"a value is missing", Diagram{2, []Node{{0, []int{1}}}}, api.ErrShape}, {"a value too many", Diagram{2, []Node{{0, []int{9, 1, 1}}}}, api.ErrShape}, {"no values", Diagram{2, []Node{{1, nil}}}, api.ErrShape},
		{"no such node", Diagram{2, []Node{{0, []int{1, 3}}}}, api.ErrUnknown}, {"a negative node", Diagram{2, []Node{{0, []int{-1, 1}}}}, api.ErrUnknown},
		{"a node of the same attribute", Diagram{2, []Node{{0, []int{3, 1}}, {0, []int{1, 1}}}}, api.ErrOrder}, {"a node that leads to itself", Diagram{2, []Node{{0, []int{2, 1}}}}, api.ErrOrder}, {"a node of a lesser attribute", Diagram{2, []Node{{1, []int{1, 1, 1, 1, 1, 1, 3}}, {0, []int{1, 1}}}}, api.ErrOrder},
		{"a node ahead of an unknown one", Diagram{2, []Node{{0, []int{2, 9}}}}, api.ErrOrder}, {"an unknown node ahead of one", Diagram{2, []Node{{0, []int{9, 2}}}}, api.ErrUnknown},
		{"a node whose attribute is too high", Diagram{2, []Node{{0, []int{3, 1}}, {9, nil}}}, api.ErrUnknown}, {"a node whose attribute is negative", Diagram{2, []Node{{0, []int{3, 1}}, {-9, nil}}}, api.ErrOrder},
		{"the first of two wrong nodes", Diagram{2, []Node{{0, []int{1}}, {9, nil}}}, api.ErrShape}, {"the second of two nodes", Diagram{2, []Node{{1, ones}, {0, []int{3, 1}}}}, api.ErrOrder},
		{"the same node twice", Diagram{2, []Node{{0, []int{3, 3}}, {1, ones}}}, api.OK},
	} {
		if e := CheckDiagram(examples(), x.d); e != x.want {
			t.Errorf("%s: got %v, want %v", x.what, e, x.want)
		}
		if x.want == api.OK {
			continue
		}
		if holds, e := Run(examples(), x.d, []int{9}); holds || e != x.want {
			t.Errorf("Run, %s: got %v and %v, want %v", x.what, holds, e, x.want)
		}
	}
	for want, l := range wrongAttributes {
		if e := CheckDiagram(l, Diagram{Root: -1}); e != want {
			t.Errorf("CheckDiagram(%v): got %v, want %v", l, e, want)
		}
		if holds, e := Run(l, Diagram{Root: 1}, nil); holds || e != want {
			t.Errorf("Run(%v): got %v and %v, want %v", l, holds, e, want)
		}
	}
}

func TestRun(t *testing.T) {
	d := Diagram{3, []Node{{1, []int{1, 1, 1, 1, 0, 0, 0}}, {0, []int{2, 4}}, {1, []int{0, 0, 0, 0, 1, 1, 1}}}}
	for category := range 2 {
		for age := 14; age <= 20; age++ {
			want := (category == 0) == (age < 18)
			if holds, e := Run(examples(), d, []int{category, age}); holds != want || e != api.OK {
				t.Errorf("at %d, %d: got %v and %v", category, age, holds, e)
			}
		}
	}
	checkCaseErrors(t, "Run", func(c []int) api.Errno {
		holds, e := Run(mixed(), Diagram{Root: 1}, c)
		if holds {
			t.Errorf("true beside the error %v", e)
		}
		return e
	})
	wide := tooWide()[1]
	if holds, e := Run(wide, Diagram{2, []Node{{7, append(make([]int, 999), 1)}}}, []int{0, 0, 0, 0, 0, 0, 0, 999}); !holds || e != api.OK {
		t.Errorf("of more than MaxCases cases: got %v and %v", holds, e)
	}
}
