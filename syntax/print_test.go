package syntax_test

import (
	"strings"
	"testing"

	"eyrie/api"
	"eyrie/syntax"
)

// P6.3

func wantPrint(t *testing.T, p api.Pattern, want string) {
	t.Helper()
	if s, err := syntax.Print(p); s != want || err != api.OK {
		t.Errorf("%+v: %q, error %d; not %q", p, s, err, want)
	}
}

func wantShow(t *testing.T, n api.Node, want string) {
	t.Helper()
	if s, err := syntax.Show(n); s != want || err != api.OK {
		t.Errorf("%+v: %q, error %d; not %q", n, s, err, want)
	}
}

func wantNoShow(t *testing.T, n api.Node) {
	t.Helper()
	if s, err := syntax.Show(n); s != "" || err != api.ErrText {
		t.Errorf("%+v: %q, error %d", n, s, err)
	}
}

func wantCond(t *testing.T, c api.Cond, want string) {
	t.Helper()
	if s, err := syntax.Cond(c); s != want || err != api.OK {
		t.Errorf("%+v: %q, error %d; not %q", c, s, err, want)
	}
}

func wantNoCond(t *testing.T, c api.Cond) {
	t.Helper()
	if s, err := syntax.Cond(c); s != "" || err != api.ErrText {
		t.Errorf("%+v: %q, error %d", c, s, err)
	}
}

func TestPrint(t *testing.T) {
	wantPrint(t, pattern("p", 10, seq(term("A", "a", cond(own("x"), api.RelGt, num(3))), b()), cond(of("a", "x"), api.RelEq, of("b", "x"))),
		"pattern p within 10 : A as a [ x > 3 ] ; B as b where a . x = b . x")
	wantPrint(t, pattern("q", -1, and(or(a(), b()), c()), cond(str("a \"b\" # \n"), api.RelNe, num(0)), cond(own("y"), api.RelGe, str(""))),
		`pattern q within -1 : ( A as a | B as b ) & C as c where "a \"b\" # \x0a" != 0 , y >= ""`)
	wantPrint(t, pattern("p", 0, a()), "pattern p within 0 : A as a")
	r := dice()
	for range 2000 {
		p := somePattern(r)
		if want := patternText(p); len(want) <= api.MaxPattern {
			wantPrint(t, p, want)
		} else {
			wantLong(t, p)
		}
		if want := treeText(p.Root); len(want) <= api.MaxPattern {
			wantShow(t, p.Root, want)
		}
		for _, c := range p.Where {
			wantCond(t, c, condsText([]api.Cond{c}))
		}
	}
}

func TestShow(t *testing.T) {
	wantShow(t, a(), "A as a")
	wantShow(t, term("A", "a", one(), cond(str("s"), api.RelLe, of("a", "x"))), `A as a [ x = 1 , "s" <= a . x ]`)
	// no brackets stand round all of it
	wantShow(t, or(a(), b()), "A as a | B as b")
	wantShow(t, seq(a(), or(b(), c())), "A as a ; ( B as b | C as c )")
	wantNoShow(t, api.Node{})
	wantNoShow(t, seq(a()))
	wantNoShow(t, term("A", "a", api.Cond{}))
	wantNoShow(t, term("A", "a", one(), cond(own("x"), 7, num(1))))
}

func TestCond(t *testing.T) {
	wantCond(t, one(), "x = 1")
	wantCond(t, cond(of("a", "x"), api.RelNe, of("b", "y")), "a . x != b . y")
	wantCond(t, cond(num(-3), api.RelLt, str("\xff")), `-3 < "\xff"`)
	wantCond(t, cond(str("<"), api.RelLe, own("where")), `"<" <= where`)
	wantCond(t, cond(num(1), api.RelGt, num(2)), "1 > 2")
	wantCond(t, cond(of("as", "as"), api.RelGe, own("as")), "as . as >= as")
	// the longest one
	full := strings.Repeat("\xff", api.MaxString)
	wantCond(t, cond(str(full), api.RelNe, str(full)), sideText(str(full))+" != "+sideText(str(full)))
	wantNoCond(t, api.Cond{})
	wantNoCond(t, cond(own("x"), 0, num(1)))
	wantNoCond(t, cond(own("x"), 7, num(1)))
	wantNoCond(t, cond(own("x"), -1, num(1)))
	wantNoCond(t, cond(of("a", ""), api.RelEq, num(1)))
	wantNoCond(t, cond(own("x"), api.RelEq, api.Operand{}))
	wantNoCond(t, cond(own("x y"), api.RelEq, num(1)))
}

// wantLong asks that a pattern has words, but that they make a text too long.
func wantLong(t *testing.T, p api.Pattern) {
	t.Helper()
	if s, err := syntax.Print(p); s != "" || err != api.ErrLong {
		t.Errorf("Print: %d bytes, error %d", len(s), err)
	}
	if l, err := syntax.Words(p); len(l) < 2 || err != api.OK {
		t.Errorf("Words: %d words, error %d", len(l), err)
	}
}

// padded is a tree whose text has n bytes.
func padded(n int) api.Node {
	tree := seq()
	for ; n > 50; n -= len("A as a ; ") {
		tree.Kids = append(tree.Kids, a())
	}
	tree.Kids = append(tree.Kids, term(strings.Repeat("A", n-len(" as ")-20), strings.Repeat("n", 20)))
	return tree
}

func TestLength(t *testing.T) {
	for n := api.MaxPattern - 20; n <= api.MaxPattern+20; n++ {
		tree := padded(n)
		s, err := syntax.Show(tree)
		if n <= api.MaxPattern && (err != api.OK || len(s) != n || s != treeText(tree)) || n > api.MaxPattern && (err != api.ErrLong || s != "") {
			t.Errorf("a tree of %d bytes: %d bytes, error %d", n, len(s), err)
		}
		for _, where := range [][]api.Cond{nil, {one()}, {one(), cond(of("a", "x"), api.RelNe, str("\n"))}} {
			p := pattern("p", 10, a(), where...)
			p.Root = padded(n - len(patternText(p)) + len("A as a"))
			if len(patternText(p)) != n {
				t.Fatalf("%d bytes, not %d", len(patternText(p)), n)
			}
			if n <= api.MaxPattern {
				wantPrint(t, p, patternText(p))
				wantPattern(t, patternText(p), p)
			} else {
				wantLong(t, p)
			}
		}
	}
}

func TestNoTextComesFirst(t *testing.T) {
	for _, change := range []func(p *api.Pattern){
		func(p *api.Pattern) { p.Name = "" },
		func(p *api.Pattern) { p.Where = append(p.Where, api.Cond{}) },
		func(p *api.Pattern) { p.Root.Kids[len(p.Root.Kids)-1].Type = "" },
		func(p *api.Pattern) { p.Root.Kids[len(p.Root.Kids)-1].Kind = 0 },
		func(p *api.Pattern) { p.Root.Type = "A" },
		func(p *api.Pattern) { p.Root.Kids[200].Tests = []api.Cond{{}} },
	} {
		p := pattern("p", 10, padded(2*api.MaxPattern))
		wantLong(t, p)
		change(&p)
		wantNoWords(t, p)
	}
	n := padded(2 * api.MaxPattern)
	n.Kids[len(n.Kids)-1].Var = ""
	wantNoShow(t, n)
}
