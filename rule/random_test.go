package rule

import (
	"math/rand"
	"slices"
	"strings"
	"testing"

	"stadion/api"
)

// sample is a condition over the attributes of mixed that is known without being read.
type sample struct {
	kind   string // true, false, comparison, not, and, or, if
	parts  []*sample
	tokens []string // of a comparison
	truth  func(c []int) bool
	from   int // of a comparison, in the text that was written last
	to     int
}

func (s *sample) holds(c []int) bool {
	switch s.kind {
	case "not":
		return !s.parts[0].holds(c)
	case "and":
		return !slices.ContainsFunc(s.parts, func(p *sample) bool { return !p.holds(c) })
	case "or":
		return slices.ContainsFunc(s.parts, func(p *sample) bool { return p.holds(c) })
	case "if":
		return !s.parts[0].holds(c) || s.parts[1].holds(c)
	}
	return s.truth(c)
}

// decisive returns what decides, by the definition of the chapter.
func (s *sample) decisive(c []int) []Part {
	part := func(i int) []Part { return s.parts[i].decisive(c) }
	switch s.kind {
	case "comparison":
		return []Part{{s.from, s.to, s.truth(c)}}
	case "not":
		return part(0)
	case "and", "or":
		first := slices.IndexFunc(s.parts, func(p *sample) bool { return p.holds(c) == (s.kind == "or") })
		if first >= 0 {
			return part(first)
		}
		var all []Part
		for i := range s.parts {
			all = append(all, part(i)...)
		}
		return all
	case "if":
		switch {
		case !s.parts[0].holds(c):
			return part(0)
		case s.parts[1].holds(c):
			return part(1)
		}
		return append(part(0), part(1)...)
	}
	return nil
}

// normal returns the normal form.
func (s *sample) normal() string {
	in := func(p *sample, kinds ...string) string {
		if slices.Contains(kinds, p.kind) {
			return "(" + p.normal() + ")"
		}
		return p.normal()
	}
	var parts []string
	switch s.kind {
	case "not":
		return "not " + in(s.parts[0], "if", "or", "and")
	case "and":
		for _, p := range s.parts {
			parts = append(parts, in(p, "if", "or"))
		}
		return strings.Join(parts, " and ")
	case "or":
		for _, p := range s.parts {
			parts = append(parts, in(p, "if"))
		}
		return strings.Join(parts, " or ")
	case "if":
		return "if " + in(s.parts[0], "if") + " then " + s.parts[1].normal()
	case "comparison":
		return strings.NewReplacer(" .. ", "..", "{ ", "{", " }", "}", " ,", ",").Replace(strings.Join(s.tokens, " "))
	}
	return s.kind
}

// writer writes a text with blanks and parentheses at random.
type writer struct {
	*rand.Rand
	strings.Builder
	last string // the token that was written last; the names of mixed have no digits
}

// needsBlank reports whether two tokens without a blank between them would be read as another one.
func needsBlank(before, after string) bool {
	if before == "" {
		return false
	}
	first, last := rune(after[0]), rune(before[len(before)-1])
	return isOfName(first) && isOfName(last) && (isDigit(first) || !isDigit(last))
}

// token writes a token, with blanks at random in front, and returns where it begins.
func (w *writer) token(text string) int {
	if needsBlank(w.last, text) {
		w.WriteString(" ")
	}
	w.WriteString(strings.Repeat(" ", max(0, w.Intn(5)-2)))
	w.last = text
	at := w.Len()
	w.WriteString(text)
	return at
}

func (w *writer) inside(s *sample, kinds ...string) {
	if slices.Contains(kinds, s.kind) || w.Intn(6) == 0 {
		w.token("(")
		w.inside(s)
		w.token(")")
		return
	}
	w.sample(s)
}

func (w *writer) sample(s *sample) {
	switch s.kind {
	case "comparison":
		s.from = w.token(s.tokens[0])
		for _, t := range s.tokens[1:] {
			w.token(t)
		}
		s.to = w.Len()
	case "not":
		w.token("not")
		w.inside(s.parts[0], "if", "or", "and")
	case "and", "or":
		for i, p := range s.parts {
			if i > 0 {
				w.token(s.kind)
			}
			// an or within an or, or an and within an and, has parentheses at random
			w.inside(p, map[string][]string{"and": {"if", "or"}, "or": {"if"}}[s.kind]...)
		}
	case "if":
		w.token("if")
		w.inside(s.parts[0], "if")
		w.token("then")
		w.inside(s.parts[1])
	default:
		w.token(s.kind)
	}
}

// text writes a sample anew.
func text(r *rand.Rand, s *sample) string {
	w := &writer{Rand: r}
	w.inside(s)
	w.WriteString(strings.Repeat(" ", r.Intn(2)))
	return w.String()
}

func compared(truth func(c []int) bool, tokens ...string) *sample {
	return &sample{kind: "comparison", tokens: tokens, truth: truth}
}

// comparisons returns some over the attributes of mixed.
func comparisons() []*sample {
	return []*sample{
		compared(func(c []int) bool { return c[0] == 1 }, "a", "==", "'y'"),
		compared(func(c []int) bool { return c[1] != 0 }, "b", "!=", "'z'"),
		compared(func(c []int) bool { return c[0] == 2*(1-c[1]) }, "a", "==", "b"),
		compared(func(c []int) bool { return c[0] != 1 }, "a", "in", "{", "'z'", ",", "'x'", "}"),
		compared(func(c []int) bool { return c[2] < 0 }, "m", "<", "0"),
		compared(func(c []int) bool { return c[2] >= -1 }, "m", ">=", "-1"),
		compared(func(c []int) bool { return c[2] > c[3] }, "m", ">", "n"),
		compared(func(c []int) bool { return c[3] <= 1 }, "n", "<=", "1"),
		compared(func(c []int) bool { return c[3] == c[2]*c[2] && c[2] >= 0 }, "n", "==", "m"),
		compared(func(c []int) bool { return c[2] == -2 || c[2] == 1 }, "m", "in", "{", "12", ",", "-2", ",", "1", "}"),
		compared(func(c []int) bool { return c[2] == -1 || c[2] == 0 }, "m", "in", "-1", "..", "0"),
		compared(func(c []int) bool { return false }, "n", "in", "3", "..", "3"),
	}
}

func random(r *rand.Rand, depth int) *sample {
	switch kind := r.Intn(12); {
	case depth == 0 || kind < 4:
		list := comparisons()
		return list[r.Intn(len(list))]
	case kind < 5:
		truth := r.Intn(2) == 0
		return &sample{kind: map[bool]string{true: "true", false: "false"}[truth], truth: func([]int) bool { return truth }}
	case kind < 7:
		return &sample{kind: "not", parts: []*sample{random(r, depth-1)}}
	case kind < 8:
		return &sample{kind: "if", parts: []*sample{random(r, depth-1), random(r, depth-1)}}
	default:
		s := &sample{kind: []string{"and", "or"}[kind%2]}
		for range 2 + r.Intn(2) {
			s.parts = append(s.parts, random(r, depth-1))
		}
		return s
	}
}

// mixedCases returns all cases of the attributes of mixed in ascending order.
func mixedCases() [][]int {
	var all [][]int
	for i := range 72 {
		all = append(all, []int{i / 24, i / 12 % 2, i/3%4 - 2, i % 3})
	}
	return all
}

func TestRandomForms(t *testing.T) {
	r := rand.New(rand.NewSource(1))
	for range 3000 {
		s := random(r, 4)
		written := text(r, s)
		form, at, e := Format(written)
		if form != s.normal() || at != 0 || e != api.OK {
			t.Fatalf("Format(%q): got %q, %d and %v, want %q", written, form, at, e, s.normal())
		}
		if again, _, _ := Format(form); again != form {
			t.Fatalf("the normal form of %q is %q", form, again)
		}
		if at, e := CheckCondition(mixed(), written); at != 0 || e != api.OK {
			t.Fatalf("CheckCondition(%q): got %d and %v", written, at, e)
		}
		if c, e := Differ(mixed(), written, form); e != api.ErrNone {
			t.Fatalf("%q and its normal form differ: got %v and %v", written, c, e)
		}
	}
}

func TestRandomCases(t *testing.T) {
	r := rand.New(rand.NewSource(2))
	all := mixedCases()
	for range 300 {
		s := random(r, 4)
		written := text(r, s)
		var holding [][]int
		for _, c := range all {
			got, e := Eval(mixed(), written, c)
			if got != s.holds(c) || e != api.OK {
				t.Fatalf("Eval(%q, %v): got %v and %v", written, c, got, e)
			}
			if got {
				holding = append(holding, c)
			}
			parts, e := Explain(mixed(), written, c)
			if !slices.Equal(parts, s.decisive(c)) || e != api.OK {
				t.Fatalf("Explain(%q, %v): got %v and %v, want %v", written, c, parts, e, s.decisive(c))
			}
		}
		n, _ := Count(mixed(), written)
		opposite, _ := Count(mixed(), "not ("+written+")")
		if n != len(holding) || n+opposite != len(all) {
			t.Fatalf("Count(%q): got %d, and %d for its opposite, want %d", written, n, opposite, len(holding))
		}
		c, e := Witness(mixed(), written)
		if n == 0 && e != api.ErrNone || n > 0 && (e != api.OK || !slices.Equal(c, holding[0])) {
			t.Fatalf("Witness(%q): got %v and %v", written, c, e)
		}
	}
}

// TestRandomExplanations checks that a condition keeps its truth as long as the comparisons that decide keep theirs.
func TestRandomExplanations(t *testing.T) {
	r := rand.New(rand.NewSource(3))
	for range 100 {
		written := text(r, random(r, 3))
		truths := truthsOf(t, written)
		parts := map[string][]bool{}
		for i, c := range mixedCases() {
			decisive, _ := Explain(mixed(), written, c)
			for _, p := range decisive {
				if part := written[p.From:p.To]; parts[part] == nil {
					parts[part] = truthsOf(t, part)
				}
			}
			for k, other := range mixedCases() {
				differs := func(p Part) bool { return parts[written[p.From:p.To]][k] != p.Holds }
				if !slices.ContainsFunc(decisive, differs) && truths[i] != truths[k] {
					t.Fatalf("%q: what decides at %v is %v, as at %v", written, c, decisive, other)
				}
			}
		}
	}
}

// truthsOf returns for each case of the attributes of mixed whether a condition holds.
func truthsOf(t *testing.T, s string) []bool {
	t.Helper()
	var truths []bool
	for _, c := range mixedCases() {
		is, e := Eval(mixed(), s, c)
		if e != api.OK {
			t.Fatalf("Eval(%q, %v): got %v", s, c, e)
		}
		truths = append(truths, is)
	}
	return truths
}

func TestRandomDiagrams(t *testing.T) {
	r := rand.New(rand.NewSource(4))
	for range 600 {
		a, b := random(r, 2), random(r, 2)
		s, other := text(r, a), text(r, b)
		d, e := Compile(mixed(), s)
		if e != api.OK || CheckDiagram(mixed(), d) != api.OK {
			t.Fatalf("Compile(%q): got %v and %v", s, d, e)
		}
		checkReduced(t, s, d)
		for _, c := range mixedCases() {
			if got, e := Run(mixed(), d, c); got != a.holds(c) || e != api.OK {
				t.Fatalf("the diagram of %q at %v: got %v and %v", s, c, got, e)
			}
		}
		var different, broken []int
		for _, c := range slices.Backward(mixedCases()) {
			if a.holds(c) != b.holds(c) {
				different = c
			}
			if a.holds(c) && !b.holds(c) {
				broken = c
			}
		}
		c, e := Differ(mixed(), s, other)
		if !slices.Equal(c, different) || (e == api.OK) != (different != nil) {
			t.Fatalf("Differ(%q, %q): got %v and %v, want %v", s, other, c, e, different)
		}
		if is, e := Implies(mixed(), s, other); is != (broken == nil) || e != api.OK {
			t.Fatalf("Implies(%q, %q): got %v and %v", s, other, is, e)
		}
		otherDiagram, _ := Compile(mixed(), other)
		if sameDiagram(d, otherDiagram) != (different == nil) {
			t.Fatalf("the diagrams of %q and %q are %v and %v", s, other, d, otherDiagram)
		}
	}
}

// checkReduced checks that no node of a diagram is without need or there twice, and that they are numbered depth first.
func checkReduced(t *testing.T, s string, d Diagram) {
	t.Helper()
	reached := 2
	var follow func(number int)
	follow = func(number int) {
		if number < reached {
			return
		}
		if number > reached {
			t.Fatalf("the diagram of %q reaches %d ahead of %d: %v", s, number, reached, d)
		}
		reached++
		for _, next := range d.Nodes[number-2].Next {
			follow(next)
		}
	}
	follow(d.Root)
	if reached != len(d.Nodes)+2 {
		t.Fatalf("the diagram of %q has nodes that are not reached: %v", s, d)
	}
	for i, n := range d.Nodes {
		if len(slices.Compact(slices.Clone(n.Next))) == 1 {
			t.Fatalf("a node of the diagram of %q does not depend on its attribute: %v", s, d)
		}
		for _, m := range d.Nodes[:i] {
			if m.Attribute == n.Attribute && slices.Equal(m.Next, n.Next) {
				t.Fatalf("the diagram of %q has a node twice: %v", s, d)
			}
		}
	}
}

func TestRandomBooks(t *testing.T) {
	r := rand.New(rand.NewSource(5))
	for range 300 {
		b := Book{Attributes: mixed()}
		var samples []*sample
		for _, name := range numbered(r.Intn(6)) {
			s := random(r, 2)
			samples = append(samples, s)
			b.Rules = append(b.Rules, Rule{name, text(r, s)})
		}
		var gap []int
		alive := make([]bool, len(samples))
		for _, c := range slices.Backward(mixedCases()) {
			var names []string
			for i, s := range samples {
				if s.holds(c) {
					names = append(names, b.Rules[i].Name)
					alive[i] = true
				}
			}
			if got, e := Classes(b, c); !slices.Equal(got, names) || e != api.OK {
				t.Fatalf("Classes(%v, %v): got %v and %v, want %v", b.Rules, c, got, e, names)
			}
			if len(names) == 0 {
				gap = c
			}
		}
		if c, e := Gap(b); !slices.Equal(c, gap) || (e == api.OK) != (gap != nil) {
			t.Fatalf("Gap(%v): got %v and %v, want %v", b.Rules, c, e, gap)
		}
		dead, e := Dead(b)
		for i, is := range alive {
			if slices.Contains(dead, i) == is || e != api.OK {
				t.Fatalf("Dead(%v): got %v and %v", b.Rules, dead, e)
			}
		}
		checkOverlap(t, b, samples)
	}
}

func checkOverlap(t *testing.T, b Book, samples []*sample) {
	t.Helper()
	gotI, gotJ, got, e := Overlap(b)
	for i := range samples {
		for j := i + 1; j < len(samples); j++ {
			for _, c := range mixedCases() {
				if !samples[i].holds(c) || !samples[j].holds(c) {
					continue
				}
				if gotI != i || gotJ != j || !slices.Equal(got, c) || e != api.OK {
					t.Fatalf("Overlap(%v): got %d, %d, %v and %v, want %d, %d, %v", b.Rules, gotI, gotJ, got, e, i, j, c)
				}
				return
			}
		}
	}
	if e != api.ErrNone {
		t.Fatalf("Overlap(%v): got %d, %d, %v and %v", b.Rules, gotI, gotJ, got, e)
	}
}
