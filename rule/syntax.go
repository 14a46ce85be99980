package rule

import (
	"slices"

	"stadion/api"
)

// clause is a part of a condition; it is a constant, a negation, a series, an implication or a comparison.
type clause interface {
	holds(c []int) bool
}

// constant is true or false.
type constant bool

// negation is a clause behind not.
type negation struct {
	of clause
}

// series is a list of at least two clauses with and between them if all of them have to hold, otherwise with or.
type series struct {
	all  bool
	list []clause
}

// implication is a condition with if and then.
type implication struct {
	premise    clause
	conclusion clause
}

// comparison has the tokens of a comparison, and decides it once it is bound to attributes.
type comparison struct {
	tokens []Token
	decide func(c []int) bool
}

// syntax is what the grammar tells of a text: its clause, and its comparisons in the order of the text.
type syntax struct {
	root        clause
	comparisons []*comparison
}

// parse returns the syntax of a condition, or the byte of the first error.
func parse(s string) (syntax, int, api.Errno) {
	tokens, at, e := Tokens(s)
	if e != api.OK {
		return syntax{}, at, e
	}
	p := &parser{tokens: tokens}
	root := p.condition()
	switch {
	case p.next < len(tokens):
		return syntax{}, tokens[p.next].At, api.ErrSyntax
	case p.failed:
		return syntax{}, len(s), api.ErrSyntax
	}
	return syntax{root, p.comparisons}, 0, api.OK
}

// parser reads tokens by the grammar. Once it has failed it takes no token any more, so that the next one is the wrong one.
type parser struct {
	tokens      []Token
	next        int
	failed      bool
	comparisons []*comparison
}

// role returns what the grammar sees of a token.
func role(t Token) string {
	if t.Kind == kindKey || t.Kind == kindSymbol {
		return t.Text
	}
	return t.Kind
}

// accept takes the next token if it has one of the roles.
func (p *parser) accept(roles ...string) bool {
	if p.failed || p.next == len(p.tokens) || !slices.Contains(roles, role(p.tokens[p.next])) {
		return false
	}
	p.next++
	return true
}

// expect takes the next token, which has to have one of the roles.
func (p *parser) expect(roles ...string) {
	if !p.accept(roles...) {
		p.failed = true
	}
}

func (p *parser) condition() clause {
	if !p.accept("if") {
		return p.choice()
	}
	premise := p.choice()
	p.expect("then")
	return implication{premise, p.condition()}
}

func (p *parser) choice() clause {
	return p.series(false, "or", p.both)
}

func (p *parser) both() clause {
	return p.series(true, "and", p.single)
}

// series reads clauses with a key between them.
func (p *parser) series(all bool, key string, read func() clause) clause {
	list := []clause{read()}
	for p.accept(key) {
		list = append(list, read())
	}
	if len(list) == 1 {
		return list[0]
	}
	// parentheses around a series within one of its kind mean nothing
	return series{all, joined(list, func(x clause) []clause {
		if inner, ok := x.(series); ok && inner.all == all {
			return inner.list
		}
		return []clause{x}
	})}
}

// joined returns one list of the lists of all elements.
func joined[T, U any](elements []T, list func(T) []U) []U {
	var all []U
	for _, x := range elements {
		all = append(all, list(x)...)
	}
	return all
}

func (p *parser) single() clause {
	switch {
	case p.accept("not"):
		return negation{p.single()}
	case p.accept("("):
		inside := p.condition()
		p.expect(")")
		return inside
	case p.accept("true"):
		return constant(true)
	case p.accept("false"):
		return constant(false)
	}
	return p.comparison()
}

func (p *parser) comparison() clause {
	from := p.next
	p.expect(kindName)
	switch {
	case !p.accept("in"):
		p.expect("==", "!=", "<", "<=", ">", ">=")
		p.expect(kindName, kindInteger, kindWord)
	case p.accept("{"):
		p.items()
	default:
		p.expect(kindInteger)
		p.expect("..")
		p.expect(kindInteger)
	}
	x := &comparison{tokens: p.tokens[from:p.next]}
	p.comparisons = append(p.comparisons, x)
	return x
}

// items reads a set from its first item on.
func (p *parser) items() {
	p.expect(kindInteger, kindWord)
	for p.accept(",") {
		p.expect(kindInteger, kindWord)
	}
	p.expect("}")
}
