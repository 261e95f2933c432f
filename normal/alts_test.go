package normal_test

import (
	"math/rand/v2"
	"slices"
	"testing"

	"eyrie/api"
	"eyrie/check"
	"eyrie/normal"
)

// P8.3

// wantTooMany asks for ErrAlts wherever it is told, and nothing beside it.
func wantTooMany(t *testing.T, n api.Node) {
	t.Helper()
	if l, err := normal.Alts(n); err != api.ErrAlts || l != nil {
		t.Errorf("Alts of %.500s: error %d, and %d alternatives", shown(n), err, len(l))
	}
	if m, err := normal.Tree(n); err != api.ErrAlts || !alike(m, api.Node{}) {
		t.Errorf("Tree of %.500s: error %d, and %.500s", shown(n), err, shown(m))
	}
	if normal.Is(n) {
		t.Errorf("Is of %.500s", shown(n))
	}
}

func TestAltsWithoutKids(t *testing.T) {
	for _, kind := range kinds() {
		n := api.Node{Kind: kind}
		wantAlts(t, n, n)
		n = api.Node{Kind: kind, Var: "v", Type: "T", Tests: []api.Cond{test(2), test(1)}, Kids: []api.Node{}}
		wantAlts(t, n, n)
		// as a kid, too: an NdOr of no Kids is no choice
		wantAlts(t, seq(n, of("a")), seq(n, of("a")))
		wantAlts(t, or(n, of("a")), n, of("a"))
	}
}

func TestAltsOfOr(t *testing.T) {
	a, b, c, d := of("a"), of("b"), of("c"), of("d")
	wantAlts(t, or(a), a)
	wantAlts(t, or(b, a), b, a)
	// each stands as often as it is an alternative
	wantAlts(t, or(a, b, a), a, b, a)
	wantAlts(t, or(a, or(c, or(d)), b), a, c, d, b)
	wantAlts(t, or(or(or(a, b), c), d), a, b, c, d)
	wantAlts(t, or(seq(b, a), and(d, c)), seq(b, a), and(d, c))
	// what an NdOr has but its Kids is gone
	full := or(a, b)
	full.Var, full.Type, full.Tests = "v", "T", []api.Cond{test(1)}
	wantAlts(t, full, a, b)
	wantAlts(t, and(full, c), and(a, c), and(b, c))
}

func TestAltsOfProducts(t *testing.T) {
	a, b, c, d, e, f, g := of("a"), of("b"), of("c"), of("d"), of("e"), of("f"), of("g")
	for _, kind := range kinds() {
		if kind == api.NdOr {
			continue
		}
		of := func(kids ...api.Node) api.Node {
			return api.Node{Kind: kind, Var: "v", Type: "T", Tests: []api.Cond{test(1)}, Kids: kids}
		}
		wantAlts(t, of(b, a), of(b, a))
		wantAlts(t, of(of(a), of(of(b))), of(of(a), of(of(b))))
		wantAlts(t, of(a, or(b, c)), of(a, b), of(a, c))
		wantAlts(t, of(or(b, c), a), of(b, a), of(c, a))
		wantAlts(t, of(or(a, b), or(c, d)), of(a, c), of(a, d), of(b, c), of(b, d))
		wantAlts(t, of(or(a, b), e, or(c, d), f), of(a, e, c, f), of(a, e, d, f), of(b, e, c, f), of(b, e, d, f))
		wantAlts(t, of(e, or(a, b), or(c), or(d, f, g)), of(e, a, c, d), of(e, a, c, f), of(e, a, c, g), of(e, b, c, d), of(e, b, c, f), of(e, b, c, g))
		wantAlts(t, of(or(a, b), or(a, b), or(a, b)), of(a, a, a), of(a, a, b), of(a, b, a), of(a, b, b), of(b, a, a), of(b, a, b), of(b, b, a), of(b, b, b))
		// products within ors, and ors within products within products
		wantAlts(t, or(of(or(a, b), c), d, of(e, or(f, g))), of(a, c), of(b, c), d, of(e, f), of(e, g))
		wantAlts(t, of(of(or(a, b), c), seq(or(d, e), f)), of(of(a, c), seq(d, f)), of(of(a, c), seq(e, f)), of(of(b, c), seq(d, f)), of(of(b, c), seq(e, f)))
		// nothing is drawn up, and nothing put in order
		wantAlts(t, of(of(b, or(a, a))), of(of(b, a)), of(of(b, a)))
	}
}

// ways is a tree with so many alternatives: ors of some kids each, within a node.
func ways(kind int, kids ...int) api.Node {
	n := api.Node{Kind: kind}
	for i, many := range kids {
		n.Kids = append(n.Kids, or(terms(many + i)[i:]...))
	}
	return n
}

func TestHowManyAltsThereMayBe(t *testing.T) {
	for _, x := range []struct {
		n    api.Node
		want int
	}{
		{or(terms(63)...), 63}, {or(terms(64)...), 64}, {or(terms(65)...), 0}, {or(terms(66)...), 0}, {or(terms(128)...), 0}, {or(terms(5000)...), 0},
		{ways(api.NdSeq, 7, 9), 63}, {ways(api.NdAnd, 9, 7), 63}, {ways(api.NdSeq, 8, 8), 64}, {ways(api.NdAnd, 2, 2, 2, 2, 2, 2), 64}, {ways(9, 4, 4, 4), 64},
		{ways(api.NdSeq, 5, 13), 0}, {ways(api.NdSeq, 13, 5), 0}, {ways(api.NdAnd, 2, 2, 2, 2, 2, 2, 2), 0}, {ways(api.NdTerm, 3, 22), 0}, {ways(9, 100, 100, 100), 0},
		{ways(api.NdOr, 32, 32), 64}, {ways(api.NdOr, 31, 32), 63}, {ways(api.NdOr, 33, 32), 0}, {ways(api.NdOr, 1, 64), 0},
		{or(ways(api.NdSeq, 4, 8), ways(api.NdAnd, 8, 4)), 64}, {or(ways(api.NdSeq, 4, 8), ways(api.NdAnd, 8, 4), of("x")), 0},
		{seq(of("x"), or(ways(api.NdSeq, 4, 8), ways(api.NdAnd, 8, 4)), of("y")), 64},
		{seq(or(of("x"), of("y")), or(ways(api.NdSeq, 4, 8), ways(api.NdAnd, 8, 4))), 0},
		{seq(or(terms(65)...)), 0}, {seq(or(terms(64)...)), 64}, {and(seq(or(terms(1000)...), of("x"))), 0},
	} {
		if x.want == 0 {
			wantTooMany(t, x.n)
			continue
		}
		l, err := normal.Alts(x.n)
		if err != api.OK || len(l) != x.want {
			t.Errorf("%.500s: error %d, %d alternatives, not %d", shown(x.n), err, len(l), x.want)
		}
		wantTrees(t, shown(x.n), l, modelAlts(x.n))
		if _, err := normal.Tree(x.n); err != api.OK {
			t.Errorf("%.500s: Tree answers %d", shown(x.n), err)
		}
	}
	// far above: 2^2000
	wantTooMany(t, ways(api.NdAnd, slices.Repeat([]int{2}, 2000)...))
}

func TestAltsByChance(t *testing.T) {
	several, many := 0, 0
	eachTree(6000, func(_ *rand.Rand, n api.Node) {
		if modelMany(n) > 64 {
			many++
			wantTooMany(t, n)
			return
		}
		want := modelAlts(n)
		wantAlts(t, n, want...)
		if len(want) > 2 {
			several++
		}
	})
	if several < 500 || many < 50 {
		t.Errorf("%d with several, %d with too many", several, many)
	}
}

// P8.7

// counted are how often each node without Kids stands in a tree, by its key as a text.
func counted(n api.Node) map[string]int {
	m := map[string]int{}
	for _, k := range below(n) {
		if len(k.Kids) == 0 {
			m[shown(k)]++
		}
	}
	return m
}

func TestAltsHaveNothingElse(t *testing.T) {
	fewer := 0
	eachTree(6000, func(_ *rand.Rand, n api.Node) {
		l, err := normal.Alts(n)
		if want := check.Alts(n); err == api.OK && len(l) != want || (err == api.OK) != (want <= api.MaxAlts) {
			t.Fatalf("%s: error %d, %d alternatives, and check.Alts says %d", shown(n), err, len(l), want)
		}
		vars, all := check.Vars(n), counted(n)
		for _, alt := range l {
			for _, name := range check.Vars(alt) {
				if _, is := slices.BinarySearch(vars, name); !is {
					t.Fatalf("%s: the alternative %s has %q", shown(n), shown(alt), name)
				}
			}
			for what, many := range counted(alt) {
				if many > all[what] {
					t.Fatalf("%s: the alternative %s has %s %d times", shown(n), shown(alt), what, many)
				}
			}
			if check.Terms(alt) < check.Terms(n) {
				fewer++
			}
			for _, m := range below(alt) {
				if m.Kind == api.NdOr && len(m.Kids) > 0 {
					t.Fatalf("%s: an NdOr in the alternative %s", shown(n), shown(alt))
				}
			}
		}
	})
	if fewer < 1000 {
		t.Errorf("%d have fewer terms", fewer)
	}
}
