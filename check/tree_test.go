package check_test

import (
	"slices"
	"testing"

	"eyrie/api"
	"eyrie/check"
)

// P7.1

// told is what the calls tell of a tree.
type told struct {
	terms, deep, alts int
	vars, sure        []string
}

func wantTold(t *testing.T, n api.Node, want told) {
	t.Helper()
	got := told{check.Terms(n), check.Deep(n), check.Alts(n), check.Vars(n), check.Sure(n)}
	if got.terms != want.terms || got.deep != want.deep || got.alts != want.alts || !slices.Equal(got.vars, want.vars) || !slices.Equal(got.sure, want.sure) {
		t.Errorf("of %s: %+v, not %+v", shown(n), got, want)
	}
}

func list(s ...string) []string { return s }

func TestTold(t *testing.T) {
	for _, x := range []struct {
		text string
		want told
	}{
		{"A as a", told{1, 1, 1, list("a"), list("a")}},
		{"A as a ; B as b", told{2, 2, 1, list("a", "b"), list("a", "b")}},
		{"B as b & A as a", told{2, 2, 1, list("a", "b"), list("a", "b")}},
		{"A as a | B as a", told{2, 2, 2, list("a"), list("a")}},
		{"A as a | B as b", told{2, 2, 2, list("a", "b"), nil}},
		{"A as a | B as b ; C as c & D as d", told{4, 4, 2, list("a", "b", "c", "d"), nil}},
		{"A as a & D as d | B as b & D as d", told{4, 3, 2, list("a", "b", "d"), list("d")}},
		{"(A as a | B as b) ; (C as c | D as d | E as c)", told{5, 3, 6, list("a", "b", "c", "d"), nil}},
		{"(A as a | B as a) ; (C as c | D as c) & E as e", told{5, 4, 4, list("a", "c", "e"), list("a", "c", "e")}},
		{"(A as a ; B as b) | (B as b ; C as c) | (C as c & B as b & A as a)", told{7, 3, 3, list("a", "b", "c"), list("b")}},
		{"Z as z ; (A as a | (B as b ; A as a) | C as a & D as d)", told{6, 4, 3, list("a", "b", "d", "z"), list("a", "z")}},
		{"A as b ; (B as a ; (C as _ ; (D as A1 ; E as A)))", told{5, 5, 1, list("A", "A1", "_", "a", "b"), list("A", "A1", "_", "a", "b")}},
		{"A as a ; A as a | A as a", told{3, 3, 2, list("a"), list("a")}},
	} {
		wantTold(t, tree(t, x.text), x.want)
	}
}

// A node without Kids, of each kind, also of none that there is.
func TestNoKids(t *testing.T) {
	for _, kind := range kinds() {
		wantTold(t, api.Node{Kind: kind}, told{1, 1, 1, nil, nil})
		wantTold(t, api.Node{Kind: kind, Kids: []api.Node{}, Tests: tests(2), Type: "t"}, told{1, 1, 1, nil, nil})
		wantTold(t, api.Node{Kind: kind, Var: "a b"}, told{1, 1, 1, list("a b"), list("a b")})
	}
	if l := check.Vars(api.Node{Type: "A", Tests: []api.Cond{where("v")}}); len(l) != 0 {
		t.Errorf("of a node without a Var: %q", l)
	}
}

// A node with Kids, of each kind: an NdOr alone chooses among them, and a Var that stands at it is one of Vars, but bound by none.
func TestKidsOfEachKind(t *testing.T) {
	for _, kind := range kinds() {
		for many := 1; many < 5; many++ {
			n := api.Node{Kind: kind, Kids: terms(many)}
			want := told{many, 2, 1, names(many), names(many)}
			if kind == api.NdOr {
				want.alts = many
				if many > 1 {
					want.sure = nil
				}
			}
			wantTold(t, n, want)
			n.Var = "u"
			want.vars = append(list("u"), want.vars...)
			wantTold(t, n, want)
			n.Var = "v0"
			want.vars = want.vars[1:]
			wantTold(t, n, want)
			n.Kids = append(n.Kids, or(of("v0"), of("v1")))
			want.terms, want.deep, want.alts = many+2, 3, 2
			if kind == api.NdOr {
				want.alts = many + 2
				want.sure = nil
			}
			if many == 1 {
				want.vars = names(2)
			}
			wantTold(t, n, want)
		}
	}
	// the Kind of a kid counts, not that of its parent
	wantTold(t, api.Node{Kind: 9, Kids: []api.Node{{Kind: api.NdOr, Kids: []api.Node{{Var: "a"}, {Var: "b"}}}, {Kind: 0, Kids: []api.Node{{Var: "c"}, {Var: "d"}}}}}, told{4, 3, 2, list("a", "b", "c", "d"), list("c", "d")})
}

func TestEmptyVars(t *testing.T) {
	wantTold(t, seq(of(""), of("b"), of("")), told{3, 2, 1, list("b"), list("b")})
	wantTold(t, or(of(""), of("")), told{2, 2, 2, nil, nil})
	wantTold(t, or(of("a"), of("")), told{2, 2, 2, list("a"), nil})
	wantTold(t, or(of(""), of("a"), of("a")), told{3, 2, 3, list("a"), nil})
	wantTold(t, or(of("a"), of("a"), of("")), told{3, 2, 3, list("a"), nil})
	wantTold(t, seq(or(of(""), of("a")), or(of("b"), of("b"))), told{4, 3, 4, list("a", "b"), list("b")})
	wantTold(t, and(of(""), of("")), told{2, 2, 1, nil, nil})
}

// The same Var often, an NdOr within an NdSeq, an NdSeq within an NdOr, at several levels.
func TestSameVars(t *testing.T) {
	wantTold(t, seq(of("a"), of("a"), of("a")), told{3, 2, 1, list("a"), list("a")})
	wantTold(t, seq(or(of("a"), of("b")), or(of("b"), of("a"))), told{4, 3, 4, list("a", "b"), nil})
	wantTold(t, seq(or(of("a"), of("b")), of("a")), told{3, 3, 2, list("a", "b"), list("a")})
	wantTold(t, or(seq(of("a"), of("b")), seq(of("b"), of("c")), seq(of("c"), of("b"))), told{6, 3, 3, list("a", "b", "c"), list("b")})
	wantTold(t, or(seq(of("a"), of("b"), of("c")), of("b")), told{4, 3, 2, list("a", "b", "c"), list("b")})
	wantTold(t, or(of("b"), seq(of("a"), of("b"), of("c"))), told{4, 3, 2, list("a", "b", "c"), list("b")})
	wantTold(t, or(seq(of("a"), or(of("b"), seq(of("b"), of("c")))), and(or(of("a"), of("a")), of("b"))), told{7, 5, 4, list("a", "b", "c"), list("a", "b")})
	wantTold(t, or(or(or(of("a")), seq(of("a"), of("b"))), or(seq(of("b"), of("a")))), told{5, 4, 3, list("a", "b"), list("a")})
	// what is left of an NdOr is bound again beside it
	wantTold(t, seq(or(seq(of("a"), of("b")), of("a")), of("b")), told{4, 4, 2, list("a", "b"), list("a", "b")})
	wantTold(t, seq(of("b"), or(of("a"), seq(of("a"), of("b")))), told{4, 4, 2, list("a", "b"), list("a", "b")})
}

func TestDeepOfLaterKids(t *testing.T) {
	for at := range 4 {
		n := seq(terms(4)...)
		n.Kids[at] = and(of("a"), or(of("b"), of("c")))
		if deep := check.Deep(n); deep != 4 {
			t.Errorf("the kid %d is deep: %d", at, deep)
		}
	}
}

// Ways to choose, by sums and by products, at MaxAlts, around it, and far above.
func TestAlts(t *testing.T) {
	sum := func(n int) api.Node { return or(terms(n)...) }
	for _, x := range []struct {
		n    api.Node
		want int
	}{
		{sum(2), 2}, {sum(63), 63}, {sum(64), 64}, {sum(65), 65}, {sum(66), 65}, {sum(1000), 65},
		{or(sum(32), sum(31)), 63}, {or(sum(32), sum(32)), 64}, {or(sum(32), sum(33)), 65}, {or(sum(33), sum(33)), 65},
		{or(sum(64), of("a")), 65}, {or(of("a"), sum(64)), 65}, {or(of("a"), sum(63)), 64}, {or(sum(65), sum(65)), 65},
		{seq(sum(8), sum(8)), 64}, {and(sum(8), sum(8)), 64}, {seq(sum(7), sum(9)), 63}, {seq(sum(5), sum(13)), 65}, {and(sum(6), sum(11)), 65},
		{seq(sum(64), of("a")), 64}, {seq(of("a"), sum(64)), 64}, {seq(sum(64), sum(2)), 65}, {seq(sum(2), sum(64)), 65},
		{seq(sum(65), of("a")), 65}, {and(of("a"), sum(65)), 65}, {seq(of("a"), sum(66), of("b")), 65},
		{seq(sum(2), sum(2), sum(2), sum(2), sum(2), sum(2)), 64}, {seq(sum(2), sum(2), sum(2), sum(2), sum(2), sum(2), sum(2)), 65},
		{and(sum(3), sum(3), sum(7)), 63}, {and(sum(4), sum(4), sum(4)), 64}, {and(sum(3), sum(3), sum(3), sum(3)), 65},
		{or(and(sum(4), sum(4), sum(3)), sum(15)), 63}, {or(and(sum(4), sum(4), sum(3)), sum(16)), 64}, {or(and(sum(4), sum(4), sum(3)), sum(17)), 65},
		{and(or(of("a"), and(sum(3), sum(5))), sum(4)), 64}, {and(or(of("a"), and(sum(4), sum(4))), sum(4)), 65},
		{or(of("a")), 1}, {or(sum(64)), 64}, {seq(sum(64)), 64}, {seq(or(of("a"))), 1},
		{api.Node{Kind: 7, Kids: []api.Node{sum(3), sum(5)}}, 15}, {api.Node{Kind: api.NdTerm, Kids: []api.Node{sum(5), sum(13)}}, 65},
		{and(terms(1000)...), 1},
	} {
		if got := check.Alts(x.n); got != x.want {
			t.Errorf("of %.300s: %d, not %d", shown(x.n), got, x.want)
		}
	}
	// far above: more than any number holds
	far := sum(2)
	for range 70 {
		far = and(far, sum(1000))
		if got := check.Alts(far); got != 65 {
			t.Fatalf("%d", got)
		}
		if got := check.Alts(or(of("a"), far, of("b"))); got != 65 {
			t.Fatalf("%d", got)
		}
	}
	var wide api.Node
	wide.Kind = api.NdSeq
	for range 500 {
		wide.Kids = append(wide.Kids, sum(2))
	}
	if got := check.Alts(wide); got != 65 {
		t.Errorf("%d", got)
	}
}

// A factor of nought there is not: an NdOr without Kids counts 1, as any node without Kids.
func TestNoFactorOfNought(t *testing.T) {
	none := api.Node{Kind: api.NdOr}
	for n, want := range map[*api.Node]int{{Kind: api.NdOr}: 1, {Kind: api.NdSeq, Kids: []api.Node{none, none}}: 1, {Kind: api.NdAnd, Kids: []api.Node{or(of("a"), of("b")), none}}: 2, {Kind: api.NdOr, Kids: []api.Node{none, none, none}}: 3} {
		if got := check.Alts(*n); got != want {
			t.Errorf("of %s: %d, not %d", shown(*n), got, want)
		}
	}
}

// Trees by chance against the chapter's words.
func TestToldOfAnyTree(t *testing.T) {
	r := dice()
	sure, part := 0, 0
	for i := range 6000 {
		vars := append(names(1+r.IntN(6)), "", "0", "é")
		n := anyTree(r, 1+r.IntN(14), vars)
		if i%2 == 0 {
			n = someTree(r, 1+r.IntN(14), vars[:len(vars)-3])
		}
		want := told{modelTerms(n), modelDeep(n), modelAlts(n), modelVars(n), modelSure(n)}
		wantTold(t, n, want)
		if len(want.sure) > 0 {
			sure++
			if len(want.sure) < len(want.vars) {
				part++
			}
		}
	}
	if sure < 2000 || part < 500 {
		t.Errorf("%d are sure of a variable, %d of these but of some", sure, part)
	}
}

// The Vars of an inner node, which no shape has, are told too, and each once.
func TestInnerVars(t *testing.T) {
	n := seq(of("b"), of("c"))
	n.Var = "a"
	n.Kids[0].Kids = []api.Node{of("b"), of("d")}
	wantTold(t, n, told{3, 3, 1, list("a", "b", "c", "d"), list("b", "c", "d")})
	n.Kids[0].Var = "x"
	wantTold(t, or(n, n), told{6, 4, 2, list("a", "b", "c", "d", "x"), list("b", "c", "d")})
}
