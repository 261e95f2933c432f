package normal_test

import (
	"math/rand/v2"
	"slices"
	"testing"

	"eyrie/api"
	"eyrie/check"
	"eyrie/normal"
)

// P8.4

// The chapter's example, and more of its kind.
func TestTreesOfTexts(t *testing.T) {
	for _, x := range []struct{ text, want string }{
		{"A as a ; (B as b | C as c)", "A as a ; B as b | A as a ; C as c"},
		{"(B as b & A as a) & C as c", "A as a & B as b & C as c"},
		{"A as a", "A as a"},
		{"(A as a)", "A as a"},
		{"B as b ; A as a", "B as b ; A as a"},
		{"B as b & A as a", "A as a & B as b"},
		{"B as b | A as a", "A as a | B as b"},
		{"A as b & A as a", "A as a & A as b"},
		{"B as a | A as b", "A as b | B as a"},
		{"A as a | A as a", "A as a"},
		{"A as a | B as b | A as a", "A as a | B as b"},
		{"A as a [ x = 2 ] | A as a [ x = 1 ] | A as a", "A as a | A as a [ x = 1 ] | A as a [ x = 2 ]"},
		{"A as a & B as b | B as b & A as a", "A as a & B as b"},
		{"A as a ; B as b | B as b ; A as a", "A as a ; B as b | B as b ; A as a"},
		{"A as a ; (B as b ; C as c)", "A as a ; B as b ; C as c"},
		{"A as a ; (C as c & B as b)", "A as a ; B as b & C as c"},
		{"(B as b ; A as a) & (A as c ; B as d)", "(A as c ; B as d) & (B as b ; A as a)"},
		{"(A as a | B as b) ; (C as c | D as d)", "A as a ; C as c | A as a ; D as d | B as b ; C as c | B as b ; D as d"},
		{"(A as a | B as b) & (A as c | B as d)", "A as a & A as c | A as a & B as d | A as c & B as b | B as b & B as d"},
		{"(C as c | A as a) & (B as b | A as a2)", "A as a & A as a2 | A as a & B as b | A as a2 & C as c | B as b & C as c"},
		{"A as a ; B as b | C as c & D as d | E as e", "E as e | A as a ; B as b | C as c & D as d"},
		{"A as a ; ((B as b ; C as c) | D as d)", "A as a ; B as b ; C as c | A as a ; D as d"},
		{"A as a & (B as b | (C as c | D as d) & E as e)", "A as a & B as b | A as a & C as c & E as e | A as a & D as d & E as e"},
	} {
		n, want := tree(t, x.text), tree(t, x.want)
		wantForm(t, n, want)
		wantForm(t, want, want)
	}
}

// Trees that no Shape takes have a form as well.
func TestTreesThatMayNotBe(t *testing.T) {
	a, b, c := of("a"), of("b"), of("c")
	wantForm(t, api.Node{}, api.Node{})
	for _, kind := range kinds() {
		wantForm(t, node(kind), node(kind))
		one := node(kind, a)
		if kind == api.NdOr {
			wantForm(t, one, a)
			wantForm(t, node(kind, one), a)
			continue
		}
		wantForm(t, one, one)
		if draws(kind) {
			wantForm(t, node(kind, one), one)
			wantForm(t, node(kind, one, node(kind)), one)
		} else {
			wantForm(t, node(kind, b, one, a), node(kind, b, one, a))
			wantForm(t, node(kind, one, or(c, b)), or(node(kind, one, b), node(kind, one, c)))
		}
		full := node(kind, or(c, b))
		full.Var, full.Type, full.Tests = "v", "T", []api.Cond{test(2), test(1)}
		low, high := full, full
		low.Kids, high.Kids = []api.Node{b}, []api.Node{c}
		wantForm(t, full, or(low, high))
		wantForm(t, or(full, a), normal.Sort(or(low, high, a)))
	}
	// an NdOr without Kids is no choice
	wantForm(t, and(b, or(), a), and(a, b, or()))
	wantForm(t, or(or(), a), or(a, or()))
	wantForm(t, or(or(), or()), or())
	wantForm(t, and(or(or())), and(or()))
	// of too many levels, of too many terms, of a variable bound twice
	wantForm(t, and(terms(20)...), and(terms(20)...))
	wantForm(t, and(turned(terms(200))...), and(terms(200)...))
	wantForm(t, or(turned(terms(64))...), or(terms(64)...))
	wantForm(t, and(a, b, and(a, and(b, a))), and(a, a, a, b, b))
	n := a
	for range 100 {
		n = and(seq(n))
	}
	wantForm(t, n, n)
}

// Alternatives that are the same count once: of more than one there may be one form, and it alone is the answer.
func TestTreesOfSameAlternatives(t *testing.T) {
	a, b, c := of("a"), of("b"), of("c")
	for _, n := range []api.Node{
		or(and(a, b, c), and(c, b, a), and(and(a, c), b), and(b, and(c, and(a)))),
		and(or(a, a, a), or(b, b), or(c, c)),
		or(or(and(c, a, b)), or(or(and(a, b, c)))),
	} {
		wantForm(t, n, and(a, b, c))
	}
	wantForm(t, and(or(a, b), or(a, b)), or(and(a, a), and(a, b), and(b, b)))
	wantForm(t, seq(or(a, b), or(a, b)), or(seq(a, a), seq(a, b), seq(b, a), seq(b, b)))
	// 64 of which but few are left
	wantForm(t, and(slices.Repeat([]api.Node{or(a, b)}, 6)...), or(
		and(a, a, a, a, a, a), and(a, a, a, a, a, b), and(a, a, a, a, b, b), and(a, a, a, b, b, b),
		and(a, a, b, b, b, b), and(a, b, b, b, b, b), and(b, b, b, b, b, b)))
	// an order that comes by what is drawn up alone
	wantForm(t, or(and(b, c), and(and(a, c), b)), or(and(a, b, c), and(b, c)))
}

func TestTreeByChance(t *testing.T) {
	several, already := 0, 0
	eachTree(6000, func(_ *rand.Rand, n api.Node) {
		want, err := modelTree(n)
		if err != api.OK {
			wantTooMany(t, n)
			return
		}
		wantForm(t, n, want)
		if alike(n, want) {
			already++
		}
		if want.Kind == api.NdOr && len(want.Kids) > 1 {
			several++
		}
	})
	if several < 500 || already < 500 {
		t.Errorf("%d with several, %d normal already", several, already)
	}
}

func TestIs(t *testing.T) {
	for _, x := range []struct {
		text string
		want bool
	}{
		{"A as a", true}, {"A as a & B as b", true}, {"B as b & A as a", false}, {"B as b ; A as a", true},
		{"A as a | B as b", true}, {"B as b | A as a", false}, {"A as a | A as a", false}, {"A as a & A as a", true},
		{"A as a & (B as b & C as c)", false}, {"A as a ; (B as b ; C as c)", false}, {"A as a | (B as b | C as c)", false},
		{"A as a ; (B as b | C as c)", false}, {"A as a ; B as b | A as a ; C as c", true}, {"A as a & B as b ; C as c", true}, {"B as b & A as a ; C as c", false},
		{"A as a [ x = 1 ] | A as a", false}, {"A as a | A as a [ x = 1 ]", true},
		{"A as a & (B as b ; C as c) & (C as d ; A as e)", true}, {"(B as b ; C as c) & A as a", false},
	} {
		n := tree(t, x.text)
		if got := normal.Is(n); got != x.want {
			t.Errorf("%s: %v", x.text, got)
		}
	}
	for _, n := range []api.Node{or(of("a")), or(and(of("a")), and(of("b"), or(of("a"), of("c")))), and(and()), seq(of("a"), seq())} {
		if normal.Is(n) {
			t.Errorf("%s is none", shown(n))
		}
	}
	// empty lists are as nil ones
	n := and(of("a"), of("b"))
	n.Tests = []api.Cond{}
	n.Kids[0].Kids, n.Kids[1].Tests = []api.Node{}, []api.Cond{}
	if !normal.Is(n) {
		t.Errorf("%s is one", shown(n))
	}
}

// Pattern

func wantPattern(t *testing.T, p api.Pattern, want api.Errno) {
	t.Helper()
	got, err := normal.Pattern(p)
	if err != want {
		t.Errorf("%q of %.500s: error %d, not %d", p.Name, shown(p.Root), err, want)
	}
	if err != api.OK {
		if !samePattern(got, api.Pattern{}) {
			t.Errorf("%q of %.500s: beside an error %+v", p.Name, shown(p.Root), got)
		}
		return
	}
	form, err := modelTree(p.Root)
	q := p
	q.Root = form
	if err != api.OK || !samePattern(got, q) {
		t.Errorf("%q of %.500s: %.500s", p.Name, shown(p.Root), shown(got.Root))
	}
}

func TestPattern(t *testing.T) {
	on := func(name string) api.Cond { return cond(attr(name, "x"), api.RelLt, num(3)) }
	a, b, c := of("a"), of("b"), of("c")
	wantPattern(t, pattern(a), api.OK)
	wantPattern(t, pattern(seq(b, or(c, a)), on("a"), on("c"), on("a")), api.OK)
	wantPattern(t, pattern(and(b, and(c, a)), on("b")), api.OK)
	// each error, and none behind it is told first
	bad := pattern(seq(term("9", "a"), a, and(b, b)), on("z"))
	bad.Name = ""
	wantPattern(t, bad, api.ErrTitle)
	bad.Name, bad.Window = "p", 0
	wantPattern(t, bad, api.ErrTitle)
	bad.Window = api.MaxTime + 1
	wantPattern(t, bad, api.ErrTitle)
	bad.Window = api.MaxTime
	wantPattern(t, bad, api.ErrNode)
	wantPattern(t, pattern(and(terms(13)...), on("z")), api.ErrDeep)
	wantPattern(t, pattern(and(ways(api.NdOr, 3, 3), ways(api.NdAnd, 3, 3)), on("z")), api.ErrVar)
	wantPattern(t, pattern(a, on("z")), api.ErrCond)
	wantPattern(t, pattern(term("T", "a", slices.Repeat([]api.Cond{test(1)}, 17)...)), api.ErrCond)
	wantPattern(t, pattern(a, slices.Repeat([]api.Cond{on("a")}, 16)...), api.OK)
	wantPattern(t, pattern(a, slices.Repeat([]api.Cond{on("a")}, 17)...), api.ErrCond)
	wantPattern(t, pattern(and(b, or(a, b), c)), api.ErrVar)
	wantPattern(t, pattern(or(a)), api.ErrNode)
	wantPattern(t, pattern(api.Node{}), api.ErrNode)
	wantPattern(t, api.Pattern{}, api.ErrTitle)
	// too many ways to choose are Shape's error ahead of Alts': of 12 terms there are 81
	n := terms(12)
	wantPattern(t, pattern(and(or(n[:3]...), or(n[3:6]...), or(n[6:9]...), or(n[9:]...))), api.ErrDeep)
	wantPattern(t, pattern(and(or(n[:4]...), or(n[4:8]...), or(n[8:]...))), api.OK)
	wantPattern(t, pattern(and(or(n[:2]...), or(n[2:4]...), or(n[4:6]...), or(n[6:8]...), or(n[8:10]...), or(n[10:]...))), api.OK)
}

func TestPatternByChance(t *testing.T) {
	r := dice()
	for i := range 2000 {
		p := taken(r)
		wantPattern(t, p, api.OK)
		p.Name, p.Window = "other", 1+r.Int64N(api.MaxTime)
		wantPattern(t, p, api.OK)
		if i%2 == 0 {
			p.Root = anyTree(r, 1+r.IntN(20), append(names(3), ""))
		} else {
			p.Root = someTree(r, 1+r.IntN(40), names(1+r.IntN(12)))
		}
		wantPattern(t, p, check.Pattern(p))
	}
}
