package syntax_test

import (
	"math"
	"slices"
	"strings"
	"testing"

	"eyrie/api"
	"eyrie/lex"
	"eyrie/syntax"
)

// P6.2

// wantWords asks for a pattern's words: those of a text, with no places.
func wantWords(t *testing.T, p api.Pattern, text string) {
	t.Helper()
	l, err := syntax.Words(p)
	if want := bare(scanned(t, text)); err != api.OK || !slices.Equal(l, want) {
		t.Errorf("%+v: %v, error %d; not %v", p, l, err, want)
	}
}

func wantNoWords(t *testing.T, p api.Pattern) {
	t.Helper()
	if l, err := syntax.Words(p); err != api.ErrText || l != nil {
		t.Errorf("%+v: %d words, error %d", p, len(l), err)
	}
	if s, err := syntax.Print(p); err != api.ErrText || s != "" {
		t.Errorf("%+v: %q, error %d", p, s, err)
	}
}

// inPatterns are patterns that hold a tree: as the root, and as a kid at some places.
func inPatterns(n api.Node) []api.Pattern {
	l := []api.Pattern{pattern("p", 10, n), pattern("p", 10, n, one())}
	for _, make := range []func(...api.Node) api.Node{seq, and, or} {
		l = append(l, pattern("p", 10, make(n, a())), pattern("p", 10, make(a(), n)), pattern("p", 10, make(a(), n, b())),
			pattern("p", 10, make(a(), or(b(), and(c(), n)))), pattern("p", 10, make(make(make(n, a()), b()), c())))
	}
	return l
}

// withCond are patterns that hold a condition, as one of Where and as a test, at some places.
func withCond(c api.Cond) []api.Pattern {
	l := []api.Pattern{pattern("p", 10, a(), c), pattern("p", 10, seq(a(), b()), one(), c), pattern("p", 10, a(), c, one()), pattern("p", 10, a(), one(), one(), c, one())}
	for _, tests := range [][]api.Cond{{c}, {one(), c}, {c, one()}, {one(), c, one()}} {
		l = append(l, inPatterns(term("A", "a", tests...))...)
	}
	return l
}

func TestWords(t *testing.T) {
	p := pattern("p", 10, seq(term("A", "a", cond(own("x"), api.RelGt, num(3))), b()), cond(of("a", "x"), api.RelEq, of("b", "x")))
	l, err := syntax.Words(p)
	name := func(s string) api.Token { return api.Token{Kind: api.TkName, Text: s} }
	sym := func(s string) api.Token { return api.Token{Kind: api.TkSym, Text: s} }
	number := func(s string, n int64) api.Token {
		return api.Token{Kind: api.TkInt, Text: s, Value: api.Value{Kind: api.VInt, N: n}}
	}
	want := []api.Token{name("pattern"), name("p"), name("within"), number("10", 10), sym(":"), name("A"), name("as"), name("a"), sym("["), name("x"), sym(">"), number("3", 3), sym("]"),
		sym(";"), name("B"), name("as"), name("b"), name("where"), name("a"), sym("."), name("x"), sym("="), name("b"), sym("."), name("x")}
	if err != api.OK || !slices.Equal(l, want) {
		t.Errorf("%v, error %d; not %v", l, err, want)
	}
	l, err = syntax.Words(pattern("q", -1, a(), cond(str("a\"b"), api.RelNe, num(-7))))
	want = []api.Token{name("pattern"), name("q"), name("within"), number("-1", -1), sym(":"), name("A"), name("as"), name("a"), name("where"),
		{Kind: api.TkStr, Text: `"a\"b"`, Value: api.Value{Kind: api.VStr, S: "a\"b"}}, sym("!="), number("-7", -7)}
	if err != api.OK || !slices.Equal(l, want) {
		t.Errorf("%v, error %d; not %v", l, err, want)
	}
}

func TestWordsOfTexts(t *testing.T) {
	wantWords(t, pattern("p", 1, a()), "pattern p within 1 : A as a")
	wantWords(t, pattern("p", 1, term("A", "a", one(), one())), "pattern p within 1 : A as a [ x = 1 , x = 1 ]")
	wantWords(t, pattern("p", 1, a(), one(), one()), "pattern p within 1 : A as a where x = 1 , x = 1")
	wantWords(t, pattern("where", 1, term("within", "as", cond(own("where"), api.RelLe, of("as", "pattern"))), cond(of("where", "where"), api.RelLt, own("as"))),
		"pattern where within 1 : within as as [ where <= as . pattern ] where where . where < as")
	for _, n := range windows() {
		wantWords(t, pattern("p", n, a()), "pattern p within "+sideText(num(n))+" : A as a")
	}
	for i, rel := range []string{"=", "!=", "<", "<=", ">", ">="} {
		wantWords(t, pattern("p", 1, a(), cond(own("x"), i+1, num(1))), "pattern p within 1 : A as a where x "+rel+" 1")
		wantWords(t, pattern("p", 1, term("A", "a", cond(of("b", "y"), i+1, str("")))), "pattern p within 1 : A as a [ b . y "+rel+" \"\" ]")
	}
	r := dice()
	for range 1000 {
		p := somePattern(r)
		l, err := syntax.Words(p)
		var texts []string
		for _, w := range l {
			if lex.Check(w) != api.OK || w.At != 0 {
				t.Fatalf("%+v: the word %+v", p, w)
			}
			texts = append(texts, w.Text)
		}
		if err != api.OK || strings.Join(texts, " ") != patternText(p) {
			t.Fatalf("%+v: error %d, %v, not %s", p, err, texts, patternText(p))
		}
	}
}

// Brackets stand round a kid just where it would come to another tree without them.
func TestWhereBracketsStand(t *testing.T) {
	for _, x := range []struct {
		tree api.Node
		text string
	}{
		{seq(seq(a(), b()), c()), "( A as a ; B as b ) ; C as c"},
		{seq(and(a(), b()), c()), "A as a & B as b ; C as c"},
		{seq(or(a(), b()), c()), "( A as a | B as b ) ; C as c"},
		{and(seq(a(), b()), c()), "( A as a ; B as b ) & C as c"},
		{and(and(a(), b()), c()), "( A as a & B as b ) & C as c"},
		{and(or(a(), b()), c()), "( A as a | B as b ) & C as c"},
		{or(seq(a(), b()), c()), "A as a ; B as b | C as c"},
		{or(and(a(), b()), c()), "A as a & B as b | C as c"},
		{or(or(a(), b()), c()), "( A as a | B as b ) | C as c"},
		{seq(a(), seq(b(), c())), "A as a ; ( B as b ; C as c )"},
		{seq(a(), and(b(), c()), d()), "A as a ; B as b & C as c ; D as d"},
		{seq(a(), or(b(), c()), d()), "A as a ; ( B as b | C as c ) ; D as d"},
		{and(a(), seq(b(), c()), d()), "A as a & ( B as b ; C as c ) & D as d"},
		{and(a(), and(b(), c())), "A as a & ( B as b & C as c )"},
		{and(a(), or(b(), c()), d()), "A as a & ( B as b | C as c ) & D as d"},
		{or(a(), seq(b(), c()), d()), "A as a | B as b ; C as c | D as d"},
		{or(a(), and(b(), c()), d()), "A as a | B as b & C as c | D as d"},
		{or(a(), or(b(), c())), "A as a | ( B as b | C as c )"},
		{or(seq(and(or(a(), b()), c()), d()), a()), "( A as a | B as b ) & C as c ; D as d | A as a"},
		{and(seq(or(a(), b()), c()), d()), "( ( A as a | B as b ) ; C as c ) & D as d"},
		{seq(seq(seq(a(), b()), c()), d()), "( ( A as a ; B as b ) ; C as c ) ; D as d"},
		{seq(term("A", "a", one()), and(term("B", "b", one()), c())), "A as a [ x = 1 ] ; B as b [ x = 1 ] & C as c"},
		{seq(a(), b(), c(), d(), a()), "A as a ; B as b ; C as c ; D as d ; A as a"},
	} {
		wantWords(t, pattern("p", 10, x.tree), ahead+x.text)
		wantWords(t, pattern("p", 10, x.tree, one()), ahead+x.text+" where x = 1")
		if s, err := syntax.Show(x.tree); s != x.text || err != api.OK {
			t.Errorf("%q, error %d; not %q", s, err, x.text)
		}
		wantTree(t, x.text, x.tree)
	}
}

// Without any one pair of its brackets a tree's text says another tree, or none.
func TestNoBracketTooMany(t *testing.T) {
	r, pairs := dice(), 0
	for range 600 {
		n := someTree(r, 20)
		s, err := syntax.Show(n)
		if err != api.OK {
			continue
		}
		l := scanned(t, s)
		for i, w := range l {
			if w.Text != "(" {
				continue
			}
			deep, j := 1, i
			for deep > 0 {
				j++
				switch l[j].Text {
				case "(":
					deep++
				case ")":
					deep--
				}
			}
			without := s[:w.At] + " " + s[w.At+1:l[j].At] + " " + s[l[j].At+1:]
			if o, _, err := syntax.Expr(without); err == api.OK && alike(o, n) {
				t.Errorf("%q: the brackets at %d say nothing", s, w.At)
			}
			pairs++
		}
	}
	if pairs < 500 {
		t.Errorf("only %d pairs of brackets", pairs)
	}
}

func notNames() []string {
	return []string{"", " ", "1", "1a", "a b", "a.", "a ", " a", "a\n", "#", "a#", "\"a\"", "(", "a.x", "\u00e9", "\x00", "a\x00", "-", "a-b", strings.Repeat("a", api.MaxName+1), strings.Repeat("a", 2*api.MaxPattern)}
}

func TestNoName(t *testing.T) {
	most := strings.Repeat("N", api.MaxName)
	wantWords(t, pattern(most, 1, term(most, most, cond(of(most, most), api.RelEq, own(most)))), strings.ReplaceAll("pattern N within 1 : N as N [ N . N = N ]", "N", most))
	for _, s := range notNames() {
		wantNoWords(t, pattern(s, 10, a()))
		for _, n := range []api.Node{term(s, "a"), term("A", s), term(s, s), term(s, "a", one())} {
			for _, p := range inPatterns(n) {
				wantNoWords(t, p)
			}
		}
		sides := []api.Operand{of("a", s), of(s, s)}
		if s != "" {
			sides = append(sides, own(s), of(s, "x"))
		}
		for _, o := range sides {
			if o == (api.Operand{}) { // that is a constant of no kind
				continue
			}
			for _, p := range append(withCond(cond(o, api.RelEq, num(1))), withCond(cond(own("x"), api.RelEq, o))...) {
				wantNoWords(t, p)
			}
		}
	}
}

func TestOperands(t *testing.T) {
	full := strings.Repeat("\xff", api.MaxString)
	for _, o := range []api.Operand{own("x"), of("a", "x"), num(0), num(-1), num(math.MinInt64), num(math.MaxInt64), str(""), str("a"), str("\"\\\x00 #"), str(full)} {
		for _, p := range append(withCond(cond(o, api.RelEq, num(1))), withCond(cond(own("x"), api.RelEq, o))...) {
			wantWords(t, p, patternText(p))
		}
	}
	value := func(kind int, n int64, s string) api.Value { return api.Value{Kind: kind, N: n, S: s} }
	faults := []api.Operand{{}}
	for _, v := range []api.Value{value(api.VInt, 1, "s"), value(api.VStr, 1, ""), value(api.VStr, -1, "s"), value(api.VStr, 0, full+"a"), value(api.VStr, 0, strings.Repeat("a", 1<<16)),
		value(api.VNone, 1, ""), value(api.VNone, 0, "s"), value(api.VStr+1, 0, ""), value(api.VStr+1, 1, ""), value(-1, 0, ""), value(-1, 1, "s"), value(math.MaxInt, 0, ""), value(api.VInt+1<<32, 0, "")} {
		faults = append(faults, api.Operand{Value: v}, api.Operand{Var: "a", Value: v}, api.Operand{Attr: "x", Value: v})
	}
	// a Var and no Attr
	faults = append(faults, of("a", ""), of(" ", ""), api.Operand{Var: "a", Value: num(1).Value}, api.Operand{Var: "a", Value: str("s").Value}, api.Operand{Var: "1", Value: num(0).Value})
	// an Attr, and a Value that is not zero
	for _, v := range []api.Value{num(1).Value, num(0).Value, str("").Value, str("s").Value, value(0, 1, ""), value(0, 0, "s"), value(7, 0, "")} {
		faults = append(faults, api.Operand{Attr: "x", Value: v}, api.Operand{Var: "a", Attr: "x", Value: v})
	}
	for _, o := range faults {
		for _, c := range []api.Cond{cond(o, api.RelEq, num(1)), cond(own("x"), api.RelEq, o), cond(o, api.RelLt, o), cond(o, 0, num(1))} {
			for _, p := range withCond(c) {
				wantNoWords(t, p)
			}
			wantNoCond(t, c)
		}
	}
}

func TestRels(t *testing.T) {
	for rel := -2; rel < 10; rel++ {
		for _, p := range withCond(cond(own("x"), rel, num(1))) {
			if rel >= api.RelEq && rel <= api.RelGe {
				wantWords(t, p, patternText(p))
			} else {
				wantNoWords(t, p)
			}
		}
	}
	for _, rel := range []int{256 + api.RelEq, 1<<32 + api.RelEq, -api.RelEq, math.MaxInt, math.MinInt} {
		for _, p := range withCond(cond(own("x"), rel, num(1))) {
			wantNoWords(t, p)
		}
	}
}

func TestNodes(t *testing.T) {
	change := func(n api.Node, change func(n *api.Node)) api.Node {
		n = cloned(n)
		change(&n)
		return n
	}
	var faults []api.Node
	// kinds that there are not
	for _, kind := range []int{0, -1, 5, 6, 256 + api.NdTerm, 1<<32 + api.NdSeq, math.MaxInt, math.MinInt} {
		for _, n := range []api.Node{a(), seq(a(), b()), {}, term("A", "a", one()), or(a())} {
			faults = append(faults, change(n, func(n *api.Node) { n.Kind = kind }))
		}
	}
	// a term with kids, or not all that it has
	for _, kids := range [][]api.Node{{a()}, {a(), b()}, {{}}, {seq(a(), b()), c()}} {
		faults = append(faults, change(a(), func(n *api.Node) { n.Kids = kids }))
		faults = append(faults, change(term("A", "a", one()), func(n *api.Node) { n.Kids = kids }))
	}
	faults = append(faults, api.Node{Kind: api.NdTerm}, term("A", ""), term("", "a"))
	for _, make := range []func(...api.Node) api.Node{seq, and, or} {
		// no kid, one
		faults = append(faults, make(), make(a()), make(seq(a(), b())), make(or(a(), b())), make(and(a(), b())))
		// a Type, a Var or Tests
		for _, set := range []func(n *api.Node){
			func(n *api.Node) { n.Type = "A" },
			func(n *api.Node) { n.Var = "a" },
			func(n *api.Node) { n.Type = " " },
			func(n *api.Node) { n.Var = "\x00" },
			func(n *api.Node) { n.Tests = []api.Cond{one()} },
			func(n *api.Node) { n.Tests = []api.Cond{{}} },
			func(n *api.Node) { n.Type, n.Var = "A", "a" },
			func(n *api.Node) { n.Type, n.Var, n.Tests = "A", "a", []api.Cond{one()} },
			func(n *api.Node) { n.Kids, n.Var = nil, "a" },
		} {
			faults = append(faults, change(make(a(), b()), set))
		}
		// a kid that is none
		faults = append(faults, make(a(), api.Node{}), make(api.Node{}, a()), make(api.Node{}, api.Node{}))
	}
	for _, n := range faults {
		for _, p := range inPatterns(n) {
			wantNoWords(t, p)
		}
		wantNoShow(t, n)
	}
	wantNoWords(t, api.Pattern{})
	wantNoWords(t, api.Pattern{Name: "p", Window: 10})
	wantNoWords(t, api.Pattern{Root: a()})
	// faults beside others
	for _, n := range faults {
		wantNoWords(t, pattern("", 10, n))
		wantNoWords(t, pattern("p", 10, n, api.Cond{}))
		wantNoWords(t, pattern("p q", math.MinInt64, seq(n, term("", "")), api.Cond{}, one()))
	}
}

// R4: empty lists are as nil ones.
func TestEmptyLists(t *testing.T) {
	p := pattern("p", 10, api.Node{Kind: api.NdSeq, Tests: []api.Cond{}, Kids: []api.Node{
		{Kind: api.NdTerm, Type: "A", Var: "a", Tests: []api.Cond{}, Kids: []api.Node{}},
		{Kind: api.NdTerm, Type: "B", Var: "b", Tests: make([]api.Cond, 0, 5), Kids: make([]api.Node, 0, 5)},
	}})
	p.Where = []api.Cond{}
	wantWords(t, p, "pattern p within 10 : A as a ; B as b")
	wantNoWords(t, pattern("p", 10, api.Node{Kind: api.NdOr, Kids: []api.Node{}}))
	n := api.Node{Kind: api.NdTerm, Type: "A", Var: "a", Kids: make([]api.Node, 2)[:0], Tests: make([]api.Cond, 2)[:0]}
	wantWords(t, pattern("p", 10, n), "pattern p within 10 : A as a")
}
