package check_test

import (
	"fmt"
	"math"
	"slices"
	"testing"

	"eyrie/api"
	"eyrie/check"
)

// P7.2

// tall is a tree of some levels that has no fault beside that, with terms of their own at each.
func tall(levels int) api.Node {
	n := of("v0")
	for i := 1; i < levels; i++ {
		kid := of(names(levels)[i])
		if n = seq(n, kid); i%2 == 0 {
			n = api.Node{Kind: api.NdAnd, Kids: []api.Node{kid, n.Kids[0]}}
		}
	}
	return n
}

func TestShape(t *testing.T) {
	for _, text := range []string{
		"A as a", "A as a ; B as b", "A as a & B as b", "A as a | B as b", "A as a ; A as a", "A as a [ x = 1 , y != \"s\" ]",
		"(A as a | B as b) ; (C as c & D as d [ x < y , 3 >= z ])",
	} {
		wantShape(t, tree(t, text), api.OK)
	}
	wantShape(t, api.Node{}, api.ErrNode)
	wantShape(t, api.Node{Kind: api.NdTerm}, api.ErrNode)
	wantShape(t, term(longest(), longest()), api.OK)
	n := term("A", "a")
	n.Kids, n.Tests = []api.Node{}, []api.Cond{}
	wantShape(t, n, api.OK)
	n = seq(of("a"), of("b"))
	n.Tests = []api.Cond{}
	wantShape(t, n, api.OK)
}

func TestShapeLimits(t *testing.T) {
	for levels := 1; levels < 12; levels++ {
		want := api.OK
		if levels > 8 {
			want = api.ErrDeep
		}
		wantShape(t, tall(levels), want)
		// the deep kid stands last, in the middle, first
		for at := range 3 {
			n := seq(of("x"), of("y"), of("z"))
			n.Kids[at] = tall(levels - 1)
			wantShape(t, n, want)
		}
	}
	for many := 2; many < 16; many++ {
		want := api.OK
		if many > 12 {
			want = api.ErrDeep
		}
		for _, kind := range []int{api.NdSeq, api.NdAnd, api.NdOr} {
			wantShape(t, api.Node{Kind: kind, Kids: terms(many)}, want)
		}
		wantShape(t, seq(or(terms(many)[:many/2]...), and(terms(many)[many/2:]...)), map[bool]api.Errno{true: want, false: api.ErrNode}[many > 3])
	}
	// nodes are not counted, terms alone are
	var l []api.Node
	for i := range 6 {
		l = append(l, or(terms(12)[2*i], terms(12)[2*i+1]))
	}
	wantShape(t, seq(and(l[0], l[1]), and(seq(l[2], l[3]), l[4], l[5])), api.OK)
	wantShape(t, seq(and(l[0], l[1]), and(seq(l[2], l[3]), l[4], l[5]), of("a")), api.ErrDeep)
}

// Ways to choose: no tree of twelve terms has 65, so the next ones above 64 stand here.
func TestShapeAlts(t *testing.T) {
	ors := func(kind int, many ...int) api.Node {
		n, l := api.Node{Kind: kind}, terms(12)
		for _, m := range many {
			if m == 1 {
				n.Kids = append(n.Kids, l[0])
			} else {
				n.Kids = append(n.Kids, or(l[:m]...))
			}
			l = l[m:]
		}
		return n
	}
	for _, kind := range []int{api.NdSeq, api.NdAnd} {
		wantShape(t, ors(kind, 4, 4, 4), api.OK)
		wantShape(t, ors(kind, 2, 2, 2, 2, 2, 2), api.OK)
		wantShape(t, ors(kind, 3, 3, 3, 2), api.OK)
		wantShape(t, ors(kind, 5, 4, 3), api.OK)
		wantShape(t, ors(kind, 1, 1, 4, 4, 2), api.OK)
		wantShape(t, ors(kind, 3, 3, 4, 2), api.ErrDeep)
		wantShape(t, ors(kind, 3, 3, 3, 3), api.ErrDeep)
		wantShape(t, ors(kind, 2, 2, 2, 3, 3), api.ErrDeep)
		wantShape(t, seq(ors(kind, 3, 3, 3), or(of("a"), of("b"), of("c"))), api.ErrDeep)
	}
	wantShape(t, or(ors(api.NdAnd, 3, 3, 3, 2), of("a")), api.OK)
	// any other fault stands ahead of it
	n := ors(api.NdSeq, 3, 3, 3, 3)
	n.Kids[3].Kids[2].Tests = []api.Cond{{}}
	wantShape(t, n, api.ErrCond)
	n.Kids[3].Kids[2].Type = ""
	wantShape(t, n, api.ErrNode)
	// and so does the tree's size
	n.Kids[0].Kids = append(n.Kids[0].Kids, of("a"))
	wantShape(t, n, api.ErrDeep)
}

// fault is what may be wrong with a node.
type fault struct {
	name  string
	want  api.Errno
	spoil func(n *api.Node)
}

// termFaults are faults of an NdTerm, in the chapter's order.
func termFaults() []fault {
	l := []fault{{"kids", api.ErrNode, func(n *api.Node) { n.Kids = []api.Node{of("k")} }}}
	l = append(l, fault{"two kids", api.ErrNode, func(n *api.Node) { n.Kids = terms(2) }})
	for _, s := range notNames() {
		l = append(l, fault{fmt.Sprintf("var %q", s), api.ErrNode, func(n *api.Node) { n.Var = s }})
	}
	for _, s := range notNames() {
		l = append(l, fault{fmt.Sprintf("type %q", s), api.ErrNode, func(n *api.Node) { n.Type = s }})
	}
	return append(l,
		fault{"17 tests", api.ErrCond, func(n *api.Node) { n.Tests = append(n.Tests, tests(17)...) }},
		fault{"a test with a var", api.ErrCond, func(n *api.Node) { n.Tests = append(n.Tests, where(n.Var)) }},
		fault{"a test of another var", api.ErrCond, func(n *api.Node) { n.Tests = append(n.Tests, cond(num(1), api.RelEq, attr("v", "x"))) }},
		fault{"a test without a relation", api.ErrCond, func(n *api.Node) { n.Tests = append(n.Tests, cond(attr("", "x"), 0, num(1))) }},
		fault{"a test of constants", api.ErrCond, func(n *api.Node) { n.Tests = append(n.Tests, cond(num(1), api.RelEq, num(1))) }},
	)
}

// innerFaults are faults of an NdSeq, NdAnd or NdOr.
func innerFaults() []fault {
	return []fault{
		{"no kids", api.ErrNode, func(n *api.Node) { n.Kids = nil }},
		{"an empty list of kids", api.ErrNode, func(n *api.Node) { n.Kids = []api.Node{} }},
		{"one kid", api.ErrNode, func(n *api.Node) { n.Kids = n.Kids[:1] }},
		{"a var", api.ErrNode, func(n *api.Node) { n.Var = "v" }},
		{"a var that is no name", api.ErrNode, func(n *api.Node) { n.Var = " " }},
		{"a type", api.ErrNode, func(n *api.Node) { n.Type = "T" }},
		{"a type that is no name", api.ErrNode, func(n *api.Node) { n.Type = "1" }},
		{"a test", api.ErrNode, func(n *api.Node) { n.Tests = tests(1) }},
		{"a test that may not be", api.ErrNode, func(n *api.Node) { n.Tests = []api.Cond{{}} }},
		{"17 tests", api.ErrNode, func(n *api.Node) { n.Tests = tests(17) }},
		{"another kind", api.ErrNode, func(n *api.Node) { n.Kind = 0 }},
		{"a term's kind", api.ErrNode, func(n *api.Node) { n.Kind = api.NdTerm }},
	}
}

// places are a tree's nodes, each ahead of its Kids, to be changed.
func places(n *api.Node) []*api.Node {
	l := []*api.Node{n}
	for i := range n.Kids {
		l = append(l, places(&n.Kids[i])...)
	}
	return l
}

// small is a tree with nodes of each kind.
func small(t *testing.T) api.Node { return tree(t, "A as a ; (B as b | C as c) & D as d ; E as e") }

// Each fault alone, at each node.
func TestShapeFaults(t *testing.T) {
	for at, m := range below(small(t)) {
		l := innerFaults()
		if m.Kind == api.NdTerm {
			l = termFaults()
		}
		for _, x := range l {
			n := small(t)
			x.spoil(places(&n)[at])
			if err := check.Shape(n); err != x.want {
				t.Errorf("%s at %d: error %d, not %d", x.name, at, err, x.want)
			}
			wantShape(t, n, x.want)
		}
	}
	for _, kind := range kinds() {
		want := api.ErrNode
		if kind == api.NdTerm {
			want = api.OK
		}
		wantShape(t, api.Node{Kind: kind, Type: "A", Var: "a"}, want)
		want = api.ErrNode
		if slices.Contains([]int{api.NdSeq, api.NdAnd, api.NdOr}, kind) {
			want = api.OK
		}
		wantShape(t, api.Node{Kind: kind, Kids: terms(2)}, want)
		wantShape(t, seq(of("a"), api.Node{Kind: kind, Kids: terms(2)}), want)
	}
}

// Two faults at one node: the first one in the chapter's order is told.
func TestTwoShapeFaultsAtOneNode(t *testing.T) {
	for i, x := range termFaults() {
		for _, y := range termFaults()[i:] {
			for turn := range 2 {
				n := term("A", "a")
				if turn == 0 {
					x.spoil(&n)
					y.spoil(&n)
				} else {
					y.spoil(&n)
					x.spoil(&n)
				}
				want := min(x.want, y.want)
				if err := check.Shape(n); err != want {
					t.Errorf("%s and %s: error %d, not %d", x.name, y.name, err, want)
				}
			}
		}
	}
	for _, x := range innerFaults() {
		for _, y := range innerFaults() {
			n := seq(of("a"), of("b"))
			x.spoil(&n)
			if y.name != "one kid" || len(n.Kids) > 0 {
				y.spoil(&n)
			}
			if err := check.Shape(n); err != api.ErrNode && !(n.Kind == api.NdTerm && err == api.ErrCond) {
				t.Errorf("%s and %s: error %d", x.name, y.name, err)
			}
		}
	}
	// too deep stands ahead of what is wrong at any node, too many terms too
	n := tall(9)
	n.Kind, n.Var = 9, "v"
	wantShape(t, n, api.ErrDeep)
	n = or(terms(13)...)
	n.Kids[0].Type = ""
	wantShape(t, n, api.ErrDeep)
	n.Kids = n.Kids[:12]
	wantShape(t, n, api.ErrNode)
	// the Kids of what is an NdTerm count, too
	n = term("A", "a")
	n.Kids = []api.Node{tall(7)}
	wantShape(t, n, api.ErrNode)
	n.Kids = []api.Node{tall(8)}
	wantShape(t, n, api.ErrDeep)
}

// Two faults at two nodes: that of the node ahead is told.
func TestTwoShapeFaultsInOneTree(t *testing.T) {
	first := func(n api.Node, at int) []fault {
		l := innerFaults()
		if below(n)[at].Kind == api.NdTerm {
			l = termFaults()
		}
		return l
	}
	many := len(below(small(t)))
	for i := range many {
		for j := i + 1; j < many; j++ {
			for _, x := range first(small(t), i) {
				for _, y := range first(small(t), j) {
					n := small(t)
					l := places(&n)
					y.spoil(l[j])
					if x.name == "kids" || x.name == "two kids" {
						continue // then other nodes stand behind it
					}
					x.spoil(l[i])
					if err := check.Shape(n); err != modelShape(n) || len(below(n)) == many && err != x.want {
						t.Errorf("%s at %d, %s at %d: error %d, not %d", x.name, i, y.name, j, err, x.want)
					}
				}
			}
		}
	}
	// a node deep in the first kid stands ahead of the second kid
	n := seq(seq(seq(of("a"), term("A", "b", api.Cond{})), of("c")), term("", "d"))
	wantShape(t, n, api.ErrCond)
	n.Kids[0], n.Kids[1] = n.Kids[1], n.Kids[0]
	wantShape(t, n, api.ErrNode)
	// a node stands ahead of its Kids
	n = seq(term("A", "a", api.Cond{}), of("b"))
	n.Var = "v"
	wantShape(t, n, api.ErrNode)
	// the first kid's fault is told
	wantShape(t, seq(term("A", "a", api.Cond{}), term("", "b")), api.ErrCond)
	wantShape(t, seq(term("", "a"), term("A", "b", api.Cond{})), api.ErrNode)
}

func TestManyTests(t *testing.T) {
	for many := range 40 {
		want := api.OK
		if many > 16 {
			want = api.ErrCond
		}
		wantShape(t, term("A", "a", tests(many)...), want)
		wantShape(t, seq(of("b"), term("A", "a", tests(many)...)), want)
		// a fault in each of them
		for at := range many {
			for _, c := range []api.Cond{{}, where("a"), where("b"), cond(num(1), api.RelLt, num(2)), cond(attr("", "x"), 7, num(2))} {
				l := tests(many)
				l[at] = c
				wantShape(t, term("A", "a", l...), api.ErrCond)
			}
		}
	}
	wantShape(t, term("A", "a", tests(1<<17)...), api.ErrCond)
	// each term has its own
	wantShape(t, seq(term("A", "a", tests(16)...), term("B", "b", tests(16)...)), api.OK)
	wantShape(t, seq(term("A", "a", tests(16)...), term("B", "b", tests(17)...)), api.ErrCond)
	// a test is on the term's own event: by no variable, not by its own either
	wantShape(t, term("A", "a", cond(attr("", "x"), api.RelEq, attr("", "y"))), api.OK)
	wantShape(t, term("A", "a", cond(attr("a", "x"), api.RelEq, attr("", "y"))), api.ErrCond)
	wantShape(t, term("A", "a", cond(attr("", "x"), api.RelEq, attr("a", "y"))), api.ErrCond)
}

// Trees by chance against the chapter's words.
func TestShapeOfAnyTree(t *testing.T) {
	r := dice()
	seen := map[api.Errno]int{}
	for i := range 30000 {
		vars := append(names(1+r.IntN(6)), "", "0")
		if i%3 > 0 {
			vars = vars[:len(vars)-2]
		}
		n := someTree(r, 1+r.IntN(16), vars)
		if i%3 == 0 {
			n = anyTree(r, 1+r.IntN(14), vars)
		}
		for range r.IntN(3) {
			l := places(&n)
			at := l[r.IntN(len(l))]
			faults := innerFaults()
			if at.Kind == api.NdTerm {
				faults = termFaults()
			}
			if x := faults[r.IntN(len(faults))]; x.name != "one kid" || len(at.Kids) > 0 {
				x.spoil(at)
			}
		}
		want := modelShape(n)
		seen[want]++
		if err := check.Shape(n); err != want {
			t.Fatalf("%s: error %d, not %d", shown(n), err, want)
		}
	}
	for _, err := range []api.Errno{api.OK, api.ErrDeep, api.ErrNode, api.ErrCond} {
		if seen[err] < 500 {
			t.Errorf("error %d: %d", err, seen[err])
		}
	}
}

func TestShapeOfEachKind(t *testing.T) {
	for _, kind := range append(kinds(), math.MaxInt, 6, 2+1<<32) {
		for many := range 5 {
			for _, name := range []string{"", "a"} {
				for _, kindOf := range []string{"", "A"} {
					for _, l := range [][]api.Cond{nil, {test()}, {{}}} {
						n := api.Node{Kind: kind, Var: name, Type: kindOf, Tests: l, Kids: terms(many)}
						wantShape(t, n, modelShape(n))
						wantShape(t, or(of("x"), n), modelShape(or(of("x"), n)))
					}
				}
			}
		}
	}
}
