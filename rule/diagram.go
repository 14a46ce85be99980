package rule

import (
	"strings"

	"stadion/api"
)

// The numbers of the nodes of a diagram.
const (
	nodeFalse = iota
	nodeTrue
	nodeFirst // the first one of the list
)

// Compile returns the diagram of a condition.
func Compile(l []Attribute, s string) (Diagram, api.Errno) {
	x, e := readForAll(l, s)
	if e != api.OK {
		return Diagram{}, e
	}
	b := &builder{attributes: l, numbers: map[string]int{}}
	root := b.node(0, table(l, x[0]))
	return Diagram{root, b.nodes}, api.OK
}

// table returns a 1 for each case in which a clause holds, and a 0 for each other one, in the order of the cases.
func table(l []Attribute, x clause) string {
	var text strings.Builder
	for c := range cases(l) {
		if x.holds(c) {
			text.WriteByte('1')
		} else {
			text.WriteByte('0')
		}
	}
	return text.String()
}

// builder builds a diagram, with the numbers of the nodes by the tables of their rests.
type builder struct {
	attributes []Attribute
	nodes      []Node
	numbers    map[string]int // nodes of two attributes have no table in common: an attribute with a node has several values, so the tables of all later ones are shorter
}

// node returns the number of the node of a rest, which has a table, and a first attribute if any is left.
func (b *builder) node(first int, rest string) int {
	if !strings.Contains(rest, "1") {
		return nodeFalse
	}
	if !strings.Contains(rest, "0") {
		return nodeTrue
	}
	next := pieced(rest, width(b.attributes[first]))
	if strings.Repeat(next[0], len(next)) == rest {
		return b.node(first+1, next[0])
	}
	if number, found := b.numbers[rest]; found {
		return number
	}
	place := len(b.nodes)
	b.numbers[rest] = place + nodeFirst
	b.nodes = append(b.nodes, Node{Attribute: first}) // ahead of all that follows it
	numbers := make([]int, len(next))
	for i, piece := range next {
		numbers[i] = b.node(first+1, piece)
	}
	b.nodes[place].Next = numbers
	return place + nodeFirst
}

// pieced returns a text in as many pieces of one length.
func pieced(text string, count int) []string {
	pieces := make([]string, count)
	size := len(text) / count
	for i := range pieces {
		pieces[i] = text[i*size : (i+1)*size]
	}
	return pieces
}

// CheckDiagram returns the first error of a diagram, or OK.
func CheckDiagram(l []Attribute, d Diagram) api.Errno {
	if e := CheckAttributes(l); e != api.OK {
		return e
	}
	switch {
	case len(d.Nodes) > MaxCases:
		return api.ErrMany
	case !hasNode(d, d.Root):
		return api.ErrUnknown
	}
	for _, n := range d.Nodes {
		if e := checkNode(l, d, n); e != api.OK {
			return e
		}
	}
	return api.OK
}

func checkNode(l []Attribute, d Diagram, n Node) api.Errno {
	switch {
	case n.Attribute < 0 || n.Attribute >= len(l):
		return api.ErrUnknown
	case len(n.Next) != width(l[n.Attribute]):
		return api.ErrShape
	}
	for _, number := range n.Next {
		if !hasNode(d, number) {
			return api.ErrUnknown
		}
		if number >= nodeFirst && d.Nodes[number-nodeFirst].Attribute <= n.Attribute {
			return api.ErrOrder
		}
	}
	return api.OK
}

func hasNode(d Diagram, number int) bool {
	return number >= 0 && number < nodeFirst+len(d.Nodes)
}

// Run reports what a diagram says in a case.
func Run(l []Attribute, d Diagram, c []int) (bool, api.Errno) {
	if e := CheckDiagram(l, d); e != api.OK {
		return false, e
	}
	if e := CheckCase(l, c); e != api.OK {
		return false, e
	}
	number := d.Root
	for number >= nodeFirst {
		n := d.Nodes[number-nodeFirst]
		low, _ := bounds(l[n.Attribute])
		number = n.Next[c[n.Attribute]-low]
	}
	return number == nodeTrue, api.OK
}
