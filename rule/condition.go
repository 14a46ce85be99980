package rule

import (
	"cmp"
	"slices"
	"strconv"

	"stadion/api"
)

// CheckCondition returns the byte and the first error of a condition, or OK.
func CheckCondition(l []Attribute, s string) (int, api.Errno) {
	if e := CheckAttributes(l); e != api.OK {
		return 0, e
	}
	_, at, e := bound(l, s)
	return at, e
}

// read returns a condition over attributes, or the first error of both.
func read(l []Attribute, s string) (clause, api.Errno) {
	if e := CheckAttributes(l); e != api.OK {
		return nil, e
	}
	root, _, e := bound(l, s)
	return root, e
}

// bound returns a condition over attributes that have no error, or the byte and its first error.
func bound(l []Attribute, s string) (clause, int, api.Errno) {
	parsed, at, e := parse(s)
	if e != api.OK {
		return nil, at, e
	}
	for _, x := range parsed.comparisons {
		if at, e := x.bind(l); e != api.OK {
			return nil, at, e
		}
	}
	return parsed.root, 0, api.OK
}

// value is a word, or an integer if the word is empty.
type value struct {
	word    string
	integer int
}

func compareValues(a, b value) int {
	return cmp.Or(cmp.Compare(a.integer, b.integer), cmp.Compare(a.word, b.word))
}

// operand is a side of a comparison, with its value in a case.
type operand struct {
	isWord bool
	in     func(c []int) value
}

func variable(l []Attribute, i int) operand {
	words := l[i].Words
	if hasWords(l[i]) {
		return operand{true, func(c []int) value { return value{word: words[c[i]]} }}
	}
	return operand{false, func(c []int) value { return value{integer: c[i]} }}
}

func literal(t Token) operand {
	v := valueOf(t)
	return operand{t.Kind == kindWord, func([]int) value { return v }}
}

// valueOf returns the value of an integer or a word.
func valueOf(t Token) value {
	if t.Kind == kindWord {
		return value{word: t.Text}
	}
	n, err := strconv.Atoi(t.Text)
	if err != nil {
		return value{} // no token has such a text
	}
	return value{integer: n}
}

// operator is a relation of two values, by the result of their comparison.
type operator struct {
	isForWords bool
	holds      func(order int) bool
}

func operators() map[string]operator {
	return map[string]operator{
		"==": {true, func(order int) bool { return order == 0 }},
		"!=": {true, func(order int) bool { return order != 0 }},
		"<":  {false, func(order int) bool { return order < 0 }},
		"<=": {false, func(order int) bool { return order <= 0 }},
		">":  {false, func(order int) bool { return order > 0 }},
		">=": {false, func(order int) bool { return order >= 0 }},
	}
}

// bind makes a comparison one of attributes, or returns the byte and its first error.
func (x *comparison) bind(l []Attribute) (int, api.Errno) {
	asked := x.tokens[0]
	i, found := find(l, asked.Text)
	switch {
	case !found:
		return asked.At, api.ErrUnknown
	case role(x.tokens[1]) != "in":
		return x.bindRelation(l, i)
	case role(x.tokens[2]) == "{":
		return x.bindSet(l, i)
	}
	return x.bindRange(l, i)
}

func (x *comparison) bindRelation(l []Attribute, i int) (int, api.Errno) {
	sign, behind := x.tokens[1], x.tokens[2]
	left, right := variable(l, i), literal(behind)
	if behind.Kind == kindName {
		j, found := find(l, behind.Text)
		if !found {
			return behind.At, api.ErrUnknown
		}
		right = variable(l, j)
	}
	relation := operators()[sign.Text]
	switch {
	case left.isWord != right.isWord:
		return behind.At, api.ErrType
	case left.isWord && !relation.isForWords:
		return sign.At, api.ErrType
	case behind.Kind == kindWord && !slices.Contains(l[i].Words, behind.Text):
		return behind.At, api.ErrUnknown
	}
	x.decide = func(c []int) bool {
		return relation.holds(compareValues(left.in(c), right.in(c)))
	}
	return 0, api.OK
}

func (x *comparison) bindSet(l []Attribute, i int) (int, api.Errno) {
	left := variable(l, i)
	set := map[value]bool{}
	for k := 3; k < len(x.tokens); k += 2 { // between the items are commas
		item := x.tokens[k]
		v := valueOf(item)
		switch {
		case left.isWord != (item.Kind == kindWord):
			return item.At, api.ErrType
		case left.isWord && !slices.Contains(l[i].Words, item.Text):
			return item.At, api.ErrUnknown
		case set[v]:
			return item.At, api.ErrTwice
		}
		set[v] = true
	}
	x.decide = func(c []int) bool {
		return set[left.in(c)]
	}
	return 0, api.OK
}

func (x *comparison) bindRange(l []Attribute, i int) (int, api.Errno) {
	at := x.tokens[2].At
	low, high := valueOf(x.tokens[2]).integer, valueOf(x.tokens[4]).integer
	switch {
	case hasWords(l[i]):
		return at, api.ErrType
	case low > high:
		return at, api.ErrOrder
	}
	x.decide = func(c []int) bool {
		return low <= c[i] && c[i] <= high
	}
	return 0, api.OK
}
