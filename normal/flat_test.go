package normal_test

import (
	"math/rand/v2"
	"testing"

	"eyrie/api"
	"eyrie/normal"
)

// P8.2, Flat

func TestFlatOfEachKind(t *testing.T) {
	a, b, c, d, e, f := of("a"), of("b"), of("c"), of("d"), of("e"), of("f")
	for _, kind := range []int{api.NdSeq, api.NdAnd, api.NdOr} {
		of := func(kids ...api.Node) api.Node { return node(kind, kids...) }
		wantFlat(t, of(a, b), of(a, b))
		wantFlat(t, of(b, a), of(b, a))
		wantFlat(t, of(a, of(b, c)), of(a, b, c))
		wantFlat(t, of(of(a, b), c), of(a, b, c))
		wantFlat(t, of(of(c, b), a), of(c, b, a))
		// side by side, and several deep
		wantFlat(t, of(of(a, b), of(c, d), e, of(f)), of(a, b, c, d, e, f))
		wantFlat(t, of(of(of(of(a, b), c), d), of(e, of(f))), of(a, b, c, d, e, f))
		wantFlat(t, of(of(of(of(a)))), of(a))
		// the same kid twice stays twice
		wantFlat(t, of(a, of(a, a)), of(a, a, a))
		// without Kids
		wantFlat(t, of(), of())
		wantFlat(t, of(of()), of())
		wantFlat(t, of(of(), a, of(), of(of(), of())), of(a))
		for _, other := range kinds() {
			if other == kind {
				continue
			}
			// behind a kid of another Kind, by turns
			wantFlat(t, of(a, node(other, of(b, of(c, d)), e)), of(a, node(other, of(b, c, d), e)))
			wantFlat(t, node(other, of(a, of(b)), of(of(c))), node(other, of(a, b), of(c)))
			wantFlat(t, of(node(other, of(a)), of(node(other, of(of(b))))), of(node(other, of(a)), node(other, of(b))))
			wantFlat(t, of(node(other), of(node(other))), of(node(other), node(other)))
		}
	}
}

// A node of another Kind is as it is, but for its Kids.
func TestFlatOfOtherKinds(t *testing.T) {
	for _, kind := range kinds() {
		if draws(kind) {
			continue
		}
		a := node(kind, of("a"))
		wantFlat(t, node(kind), node(kind))
		wantFlat(t, a, a)
		wantFlat(t, node(kind, a, node(kind, a)), node(kind, a, node(kind, a)))
		wantFlat(t, node(kind, and(and(of("a")), a), a), node(kind, and(of("a"), a), a))
	}
}

// What is drawn up leaves nothing else behind; all other nodes have what they had.
func TestFlatKeepsTheRest(t *testing.T) {
	full := func(name string, kids ...api.Node) api.Node {
		return api.Node{Kind: api.NdAnd, Var: name, Type: "T" + name, Tests: []api.Cond{test(1)}, Kids: kids}
	}
	inner := seq(term("A", "a", test(3), test(2)), of("b"))
	inner.Var, inner.Type, inner.Tests = "s", "S", []api.Cond{test(4)}
	wantFlat(t, full("x", full("y", full("z", inner)), inner), full("x", inner, inner))
	wantFlat(t, api.Node{}, api.Node{})
}

func TestFlatByChance(t *testing.T) {
	drawn := 0
	eachTree(5000, func(_ *rand.Rand, n api.Node) {
		want := modelFlat(n)
		wantFlat(t, n, want)
		wantFlat(t, want, want)
		if !alike(n, want) {
			drawn++
		}
		for _, m := range below(normal.Flat(n)) {
			for _, k := range m.Kids {
				if draws(m.Kind) && k.Kind == m.Kind {
					t.Errorf("%s: a kid of its own Kind in %s", shown(n), shown(m))
				}
			}
		}
	})
	if drawn < 1000 {
		t.Errorf("%d drawn up", drawn)
	}
}

// P8.2, Sort

func TestSortOfEachKind(t *testing.T) {
	a, b, c := of("a"), of("b"), of("c")
	for _, kind := range kinds() {
		of := func(kids ...api.Node) api.Node { return node(kind, kids...) }
		orders, once := kind == api.NdAnd || kind == api.NdOr, kind == api.NdOr
		wantSort(t, of(), of())
		wantSort(t, of(b), of(b))
		wantSort(t, of(a, b, c), of(a, b, c))
		for _, l := range [][]api.Node{{c, b, a}, {b, a, c}, {c, a, b}} {
			if orders {
				wantSort(t, of(l...), of(a, b, c))
			} else {
				wantSort(t, of(l...), of(l...))
			}
		}
		l := []api.Node{b, a, b, a, a, c, b}
		switch {
		case once:
			wantSort(t, of(l...), of(a, b, c))
			wantSort(t, of(c, c, c), of(c))
		case orders:
			wantSort(t, of(l...), of(a, a, a, b, b, b, c))
			wantSort(t, of(c, c, c), of(c, c, c))
		default:
			wantSort(t, of(l...), of(l...))
		}
		// nothing is drawn up, and nodes keep what they have
		wantSort(t, of(of(a), of(b)), of(of(a), of(b)))
		full := of(a, b)
		full.Var, full.Type, full.Tests = "v", "T", []api.Cond{test(2), test(1), test(1)}
		wantSort(t, full, full)
		wantSort(t, and(full, full), and(full, full))
	}
}

// Kids come into order by what they are when their own Kids are in order.
func TestSortFromBelow(t *testing.T) {
	a, b, c, d := of("a"), of("b"), of("c"), of("d")
	// as they stand the first one is greater, in order it is less
	wantSort(t, and(or(d, a), or(b, c)), and(or(a, d), or(b, c)))
	wantSort(t, and(or(b, c), or(d, a)), and(or(a, d), or(b, c)))
	wantSort(t, or(and(d, c), and(b, a)), or(and(a, b), and(c, d)))
	// the same only when in order: of NdOr once, of NdAnd twice
	wantSort(t, or(and(a, b), and(b, a), c), or(c, and(a, b)))
	wantSort(t, and(or(a, b), or(b, a), c), and(c, or(a, b), or(a, b)))
	wantSort(t, or(and(or(b, a), c), and(c, or(a, b, a))), or(and(c, or(a, b))))
	// within an NdSeq, which stays, and within a Kind that is none
	wantSort(t, and(seq(and(b, a), c), seq(and(a, b), a)), and(seq(and(a, b), a), seq(and(a, b), c)))
	wantSort(t, node(7, or(b, a, b), and(d, c), a), node(7, or(a, b), and(c, d), a))
	wantSort(t, api.Node{}, api.Node{})
}

// Kids that are 0 to each other stay as they stood: they are the same, so that nobody sees it, but for their lists, which are.
func TestSortStays(t *testing.T) {
	nils, empty := of("a"), of("a")
	empty.Tests, empty.Kids = []api.Cond{}, []api.Node{}
	wantSort(t, and(of("b"), nils, empty), and(nils, empty, of("b")))
	wantSort(t, or(of("b"), nils, empty), or(nils, of("b")))
}

func TestSortByChance(t *testing.T) {
	sorted, fewer := 0, 0
	eachTree(5000, func(_ *rand.Rand, n api.Node) {
		want := modelSort(n)
		wantSort(t, n, want)
		wantSort(t, want, want)
		if !alike(n, want) {
			sorted++
		}
		if len(below(n)) > len(below(want)) {
			fewer++
		}
	})
	if sorted < 1000 || fewer < 300 {
		t.Errorf("%d sorted, %d have fewer nodes", sorted, fewer)
	}
}
