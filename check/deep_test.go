package check_test

import (
	"slices"
	"testing"
	"time"

	"eyrie/api"
	"eyrie/check"
)

// THE BOUND: very deep and very wide trees, in near-linear time: were it the square of it, each of them would take minutes.

// soon fails, if something takes far longer than near-linear time.
func soon(t *testing.T, what string, f func()) {
	t.Helper()
	begin := time.Now()
	f()
	if d := time.Since(begin); d > 20*time.Second {
		t.Errorf("%s: %v", what, d)
	}
}

// wantAll asks for all that is told of a great tree.
func wantAll(t *testing.T, what string, n api.Node, want told, binds api.Errno) {
	t.Helper()
	soon(t, what, func() {
		wantTold(t, n, want)
		if err := check.Binds(n); err != binds {
			t.Errorf("%s: Binds says %d, not %d", what, err, binds)
		}
		if err := check.Shape(n); err != api.ErrDeep {
			t.Errorf("%s: Shape says %d", what, err)
		}
		p := pattern(n, where("a"))
		if err := check.Pattern(p); err != api.ErrDeep {
			t.Errorf("%s: Pattern says %d", what, err)
		}
		c := check.Clone(p)
		if !check.Same(c, p) || !check.Same(p, c) {
			t.Errorf("%s: its clone is not the same", what)
		}
		n := &c.Root
		for len(n.Kids) > 0 {
			n = &n.Kids[len(n.Kids)-1]
		}
		n.Tests = tests(1)
		if check.Same(c, p) || check.Same(p, c) {
			t.Errorf("%s: the same, but for the last node", what)
		}
	})
}

// chain is a tree of some levels, with a term of its own at each; the level below stands first or last, by turns. Of its names the last one stands deepest.
func chain(l []string, kinds ...int) api.Node {
	low := of(l[len(l)-1])
	for i := len(l) - 2; i >= 0; i-- {
		kids := []api.Node{of(l[i]), low}
		if i%3 == 0 {
			kids = []api.Node{low, of(l[i])}
		}
		low = api.Node{Kind: kinds[i%len(kinds)], Kids: kids}
	}
	return low
}

const levels = 1 << 16

func TestDeepTrees(t *testing.T) {
	l := names(levels)
	rising := slices.Sorted(slices.Values(l))
	for _, kind := range []int{api.NdSeq, api.NdAnd} {
		wantAll(t, "a deep one", chain(l, kind), told{levels, levels, 1, rising, rising}, api.OK)
	}
	wantAll(t, "a deep one of two kinds", chain(l, api.NdSeq, api.NdAnd), told{levels, levels, 1, rising, rising}, api.OK)
	wantAll(t, "a deep one of ors", chain(l, api.NdOr), told{levels, levels, 65, rising, nil}, api.OK)
	wantAll(t, "a deep one of ands and ors", chain(l, api.NdAnd, api.NdOr), told{levels, levels, 65, rising, l[:1]}, api.OK)
	wantAll(t, "a deep one of ors and ands", chain(l, api.NdOr, api.NdAnd), told{levels, levels, 65, rising, nil}, api.OK)
	// the same Var all along
	same := slices.Repeat([]string{"a"}, levels)
	wantAll(t, "a deep one of one Var", chain(same, api.NdOr), told{levels, levels, 65, list("a"), list("a")}, api.OK)
	wantAll(t, "a deep one of one Var", chain(same, api.NdSeq), told{levels, levels, 1, list("a"), list("a")}, api.ErrVar)
	// the Var of the upmost term stands deepest, too
	twice := append(l[1:levels:levels], l[1])
	wantAll(t, "a deep one with one Var twice", chain(twice, api.NdAnd), told{levels, levels, 1, rising[1:], rising[1:]}, api.ErrVar)
}

// An NdOr of which one kid alone is deep, and all kids bind what lies below: sets that are great are held against great ones all along.
func TestDeepSure(t *testing.T) {
	l := names(levels / 2)
	low := chain(l, api.NdSeq)
	rising := slices.Sorted(slices.Values(l))
	wide := seq(terms(levels / 2)...)
	n := or(low, wide)
	wantAll(t, "two great kids", n, told{levels, levels/2 + 1, 2, rising, rising}, api.OK)
	// ors of one kid, far down: nothing is left out by them
	for range levels / 2 {
		n = or(n)
	}
	wantAll(t, "ors of one kid", n, told{levels, levels + 1, 2, rising, rising}, api.OK)
	// each level is sure of what is below it and of one more, by both kids
	n = of("low")
	for _, name := range l {
		n = seq(or(n), or(of(name), of(name)))
	}
	n = seq(n, or(of("x"), of("y")))
	if got := check.Sure(n); !slices.Equal(got, append(list("low"), rising...)) {
		t.Errorf("%d are sure", len(got))
	}
	// a great set that an NdOr makes small is small from there on up
	n = or(seq(terms(levels)...), of("v7"))
	for range levels / 2 {
		n = seq(or(n, of("v7")), of(""))
	}
	soon(t, "a small set that was great", func() {
		if got := check.Sure(n); !slices.Equal(got, list("v7")) {
			t.Errorf("%q", got)
		}
		if err := check.Binds(n); err != api.OK {
			t.Errorf("Binds says %d", err)
		}
	})
}

// Nodes with a Var each, one below the other: Vars has them all.
func TestDeepInnerVars(t *testing.T) {
	l := names(levels)
	n := of("a")
	for _, name := range l {
		n = seq(n)
		n.Var = name
	}
	wantAll(t, "inner Vars", n, told{1, levels + 1, 1, append(list("a"), slices.Sorted(slices.Values(l))...), list("a")}, api.OK)
}

func TestWideTrees(t *testing.T) {
	const many = 1 << 17
	l := terms(many)
	rising := slices.Sorted(slices.Values(names(many)))
	wantAll(t, "a wide seq", seq(l...), told{many, 2, 1, rising, rising}, api.OK)
	wantAll(t, "a wide and", and(l...), told{many, 2, 1, rising, rising}, api.OK)
	wantAll(t, "a wide or", or(l...), told{many, 2, 65, rising, nil}, api.OK)
	same := slices.Repeat([]api.Node{of("a")}, many)
	wantAll(t, "a wide or of one Var", or(same...), told{many, 2, 65, list("a"), list("a")}, api.OK)
	wantAll(t, "a wide seq of one Var", seq(same...), told{many, 2, 1, list("a"), list("a")}, api.ErrVar)
	l[many-1].Var = l[0].Var
	rising = slices.Sorted(slices.Values(names(many - 1)))
	wantAll(t, "a wide and with one Var twice", and(l...), told{many, 2, 1, rising, rising}, api.ErrVar)
	// many conditions in each of many terms
	for i := range same {
		same[i].Tests = tests(20)
	}
	wantAll(t, "many tests", or(same...), told{many, 2, 65, list("a"), list("a")}, api.OK)
	if err := check.Shape(term("A", "a", slices.Repeat(tests(1), many)...)); err != api.ErrCond {
		t.Errorf("Shape says %d", err)
	}
}

// halves is a tree each node of which has half of the terms at either side.
func halves(l []api.Node, kind int) api.Node {
	if len(l) == 1 {
		return l[0]
	}
	return api.Node{Kind: kind, Kids: []api.Node{halves(l[:len(l)/2], kind), halves(l[len(l)/2:], kind)}}
}

func TestFullTrees(t *testing.T) {
	const many = 1 << 17
	rising := slices.Sorted(slices.Values(names(many)))
	wantAll(t, "a full seq", halves(terms(many), api.NdSeq), told{many, 18, 1, rising, rising}, api.OK)
	wantAll(t, "a full or", halves(terms(many), api.NdOr), told{many, 18, 65, rising, nil}, api.OK)
	// many ors, each of the same great sets
	var kids []api.Node
	for range 1 << 9 {
		kids = append(kids, seq(terms(1<<8)...))
	}
	rising = slices.Sorted(slices.Values(names(1 << 8)))
	wantAll(t, "a full or of the same", halves(kids, api.NdOr), told{many, 11, 65, rising, rising}, api.OK)
}

// Kids that hold themselves have no end, and no promise, but each call has one: no tree without an end may be.
func TestKidsThatHoldThemselves(t *testing.T) {
	for _, kind := range []int{api.NdAnd, api.NdOr} {
		first, last, all := terms(2), terms(2), terms(2)
		for _, at := range []*api.Node{&first[0], &last[1], &all[0], &all[1]} {
			at.Kind = kind
		}
		first[0].Kids, last[1].Kids, all[0].Kids, all[1].Kids = first, last, all, all
		for _, n := range []api.Node{first[0], last[1], all[0]} {
			p := pattern(n)
			if check.Shape(n) != api.ErrDeep || check.Pattern(p) != api.ErrDeep || check.Deep(n) <= api.MaxDeep {
				t.Errorf("it may be")
			}
			check.Binds(n)
			check.Vars(n)
			check.Sure(n)
			check.Terms(n)
			check.Alts(n)
			check.Same(p, p)
			check.Clone(p)
		}
		first[0].Kids, last[1].Kids, all[0].Kids, all[1].Kids = nil, nil, nil, nil
	}
}
