package check_test

import (
	"testing"

	"eyrie/api"
	"eyrie/check"
)

// P7.3

func TestBinds(t *testing.T) {
	for _, x := range []struct {
		text string
		want api.Errno
	}{
		{"A as a", api.OK},
		{"A as a ; B as b", api.OK},
		{"A as a ; B as a", api.ErrVar},
		{"A as a & A as a", api.ErrVar},
		{"A as a | A as a", api.OK},
		// side by side, far apart
		{"A as a ; B as b ; C as c ; D as d", api.OK},
		{"A as a ; B as a ; C as c ; D as d", api.ErrVar},
		{"A as a ; B as b ; C as b ; D as d", api.ErrVar},
		{"A as a ; B as b ; C as c ; D as c", api.ErrVar},
		{"A as a ; B as b ; C as c ; D as a", api.ErrVar},
		{"A as a & B as b & C as a & D as d", api.ErrVar},
		// deep within a kid
		{"A as a ; (B as b ; (C as c ; (D as d ; E as e)))", api.OK},
		{"A as a ; (B as b ; (C as c ; (D as d ; E as a)))", api.ErrVar},
		{"(((E as a & D as d) & C as c) & B as b) & A as a", api.ErrVar},
		{"(A as a ; B as b) & (C as c ; D as d)", api.OK},
		{"(A as a ; B as b) & (C as c ; D as b)", api.ErrVar},
		{"(A as a & B as b) ; (C as c & D as b)", api.ErrVar},
		{"X as x ; (A as a & B as a)", api.ErrVar},
		{"X as x ; (Y as y & (A as a ; B as b ; A as b))", api.ErrVar},
		// below an NdOr
		{"A as a ; (B as b | C as c)", api.OK},
		{"A as a ; (B as b | C as a)", api.ErrVar},
		{"(B as a | C as c) & A as a", api.ErrVar},
		{"(B as b | C as c) & (D as d | E as b)", api.ErrVar},
		{"(B as b | C as c) ; (D as d | E as e)", api.OK},
		{"X as x | (A as a ; B as a)", api.ErrVar},
		{"X as x | (A as a ; B as b) | (A as a ; B as b)", api.OK},
		{"X as x | Y as y | (Z as z | (A as a & B as a))", api.ErrVar},
		{"A as a ; (B as b | (C as c | (D as d | E as a)))", api.ErrVar},
		// in the Kids of NdOr alone
		{"A as a | B as a | C as a", api.OK},
		{"A as a | (B as b ; C as a)", api.OK},
		{"(A as a ; B as b) | (B as b & A as a) | A as a", api.OK},
		{"X as x ; (A as a | (B as a | (B as b ; C as a)))", api.OK},
		{"(A as a | B as a) ; (A as b | B as b) & (A as c | B as c)", api.OK},
		// a name that is the beginning of another one is another one
		{"A as a ; B as aa ; C as A ; D as a_ ; E as _a", api.OK},
	} {
		wantBinds(t, tree(t, x.text), x.want)
	}
}

// Each two of some kids, with a variable in common.
func TestBindsAnyTwo(t *testing.T) {
	for _, many := range []int{2, 3, 5, 12} {
		for _, kind := range kinds() {
			for i := range many {
				for j := range i {
					n := api.Node{Kind: kind, Kids: terms(many)}
					n.Kids[i].Var = n.Kids[j].Var
					want := api.OK
					if kind == api.NdSeq || kind == api.NdAnd {
						want = api.ErrVar
					}
					wantBinds(t, n, want)
					wantBinds(t, or(of("x"), n), want)
					wantBinds(t, and(of("x"), n), want)
					// below other kids, at either side
					n.Kids[i] = or(of("y"), seq(of("z"), n.Kids[i]))
					wantBinds(t, n, want)
					n.Kids[j] = seq(or(n.Kids[j], of("u")), of("w"))
					wantBinds(t, n, want)
				}
			}
		}
	}
}

// Vars are told of all nodes, those with Kids too; the empty one is none.
func TestBindsOfFaultyTrees(t *testing.T) {
	wantBinds(t, api.Node{}, api.OK)
	wantBinds(t, seq(), api.OK)
	wantBinds(t, seq(of("a")), api.OK)
	wantBinds(t, seq(of(""), of("")), api.OK)
	wantBinds(t, and(of(""), or(of("a"), of("")), of("")), api.OK)
	wantBinds(t, seq(of("a b"), of("a b")), api.ErrVar)
	n := seq(of("a"), of("b"))
	n.Var = "a"
	wantBinds(t, n, api.OK)
	n.Var = "c"
	wantBinds(t, seq(n, of("d")), api.OK)
	wantBinds(t, seq(n, of("c")), api.ErrVar)
	wantBinds(t, seq(of("c"), n), api.ErrVar)
	wantBinds(t, or(of("c"), n), api.OK)
	wantBinds(t, and(n, n), api.ErrVar)
	// a kind that is none asks nothing, what stands below it does
	wantBinds(t, api.Node{Kind: 9, Kids: []api.Node{of("a"), of("a")}}, api.OK)
	wantBinds(t, api.Node{Kind: api.NdTerm, Kids: []api.Node{of("a"), seq(of("b"), of("b"))}}, api.ErrVar)
	wantBinds(t, seq(of("a"), api.Node{Kind: 0, Kids: []api.Node{of("b"), of("a")}}), api.ErrVar)
}

// Trees by chance against the chapter's words.
func TestBindsOfAnyTree(t *testing.T) {
	r := dice()
	seen := map[api.Errno]int{}
	for i := range 20000 {
		vars := names(2 + r.IntN(20))
		n := someTree(r, 1+r.IntN(16), vars)
		if i%3 == 0 {
			n = anyTree(r, 1+r.IntN(14), append(vars, "", "0"))
		}
		want := modelBinds(n)
		seen[want]++
		if err := check.Binds(n); err != want {
			t.Fatalf("%s: error %d, not %d", shown(n), err, want)
		}
	}
	if seen[api.OK] < 3000 || seen[api.ErrVar] < 3000 {
		t.Errorf("%v", seen)
	}
}
