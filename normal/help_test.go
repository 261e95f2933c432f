package normal_test

import (
	"math/rand/v2"
	"slices"
	"strconv"
	"testing"

	"eyrie/api"
	"eyrie/check"
	"eyrie/normal"
	"eyrie/syntax"
)

// dice are the same at each run.
func dice() *rand.Rand { return rand.New(rand.NewPCG(80, 81)) }

// Trees, conditions and patterns.

func term(kind, name string, tests ...api.Cond) api.Node {
	return api.Node{Kind: api.NdTerm, Type: kind, Var: name, Tests: tests}
}

// of is a term by its variable.
func of(name string) api.Node { return term("T", name) }

func node(kind int, kids ...api.Node) api.Node { return api.Node{Kind: kind, Kids: kids} }

func seq(kids ...api.Node) api.Node { return node(api.NdSeq, kids...) }

func and(kids ...api.Node) api.Node { return node(api.NdAnd, kids...) }

func or(kids ...api.Node) api.Node { return node(api.NdOr, kids...) }

// tree is the tree of a text.
func tree(t testing.TB, text string) api.Node {
	t.Helper()
	n, at, err := syntax.Expr(text)
	if err != api.OK {
		t.Fatalf("%q: error %d at %d", text, err, at)
	}
	return n
}

// names are some variables, each another one; they rise.
func names(n int) []string {
	var l []string
	for i := range n {
		l = append(l, "v"+strconv.Itoa(i + 1000000)[1:])
	}
	return l
}

// terms are some terms, each with a variable of its own; they rise.
func terms(n int) []api.Node {
	var l []api.Node
	for _, name := range names(n) {
		l = append(l, of(name))
	}
	return l
}

// turned are the same nodes, turned about.
func turned(l []api.Node) []api.Node {
	l = slices.Clone(l)
	slices.Reverse(l)
	return l
}

func num(n int64) api.Operand { return api.Operand{Value: api.Value{Kind: api.VInt, N: n}} }

func attr(name, attr string) api.Operand { return api.Operand{Var: name, Attr: attr} }

func cond(left api.Operand, rel int, right api.Operand) api.Cond {
	return api.Cond{Left: left, Rel: rel, Right: right}
}

// test is a condition of a term's own that may be.
func test(n int64) api.Cond { return cond(attr("", "x"), api.RelEq, num(n)) }

func pattern(root api.Node, where ...api.Cond) api.Pattern {
	return api.Pattern{Name: "p", Window: 10, Root: root, Where: where}
}

// kinds are the kinds of nodes, and some that are none.
func kinds() []int {
	return []int{api.NdTerm, api.NdSeq, api.NdAnd, api.NdOr, 0, -1, 5, 1 << 40, -1 << 63}
}

// What is asked.

func wantTree(t *testing.T, what string, got, want api.Node) {
	t.Helper()
	if !alike(got, want) {
		t.Errorf("%s: %.1000s, not %.1000s", what, shown(got), shown(want))
	}
}

func wantTrees(t *testing.T, what string, got, want []api.Node) {
	t.Helper()
	if !slices.EqualFunc(got, want, alike) {
		t.Errorf("%s: %.1000s, not %.1000s", what, shown(or(got...)), shown(or(want...)))
	}
}

func wantFlat(t *testing.T, n, want api.Node) {
	t.Helper()
	wantTree(t, "Flat of "+shown(n), normal.Flat(n), want)
}

func wantSort(t *testing.T, n, want api.Node) {
	t.Helper()
	wantTree(t, "Sort of "+shown(n), normal.Sort(n), want)
}

func wantAlts(t *testing.T, n api.Node, want ...api.Node) {
	t.Helper()
	got, err := normal.Alts(n)
	if err != api.OK {
		t.Errorf("Alts of %.500s: error %d", shown(n), err)
	}
	wantTrees(t, "Alts of "+shown(n), got, want)
}

func wantForm(t *testing.T, n, want api.Node) {
	t.Helper()
	got, err := normal.Tree(n)
	if err != api.OK {
		t.Errorf("Tree of %.500s: error %d", shown(n), err)
	}
	wantTree(t, "Tree of "+shown(n), got, want)
	if is := alike(n, want); normal.Is(n) != is {
		t.Errorf("Is of %.500s: %v", shown(n), !is)
	}
}

// By chance.

// someTree is a tree of about so many nodes, such as may be but for its variables.
func someTree(r *rand.Rand, most int, vars []string) api.Node {
	if most < 2 || r.IntN(8) == 0 {
		return of(vars[r.IntN(len(vars))])
	}
	n := api.Node{Kind: []int{api.NdSeq, api.NdAnd, api.NdOr}[r.IntN(3)]}
	many := 2 + r.IntN(3)
	for range many {
		n.Kids = append(n.Kids, someTree(r, most/many, vars))
	}
	return n
}

// anyTree is a tree whose nodes may be anything.
func anyTree(r *rand.Rand, most int, vars []string) api.Node {
	n := api.Node{Kind: r.IntN(6)}
	if r.IntN(4) == 0 {
		n.Type = vars[r.IntN(len(vars))]
	}
	if r.IntN(4) == 0 {
		n.Var = vars[r.IntN(len(vars))]
	}
	for range r.IntN(24) / 20 * r.IntN(4) {
		n.Tests = append(n.Tests, anyCond(r))
	}
	if r.IntN(4) == 0 {
		n.Kids = []api.Node{}
	}
	if most < 2 {
		return n
	}
	many := r.IntN(4)
	for range many {
		n.Kids = append(n.Kids, anyTree(r, (most-1)/many, vars))
	}
	return n
}

func anyCond(r *rand.Rand) api.Cond { return cond(anySide(r), r.IntN(3), anySide(r)) }

func anySide(r *rand.Rand) api.Operand {
	l := []string{"", "x", "y"}
	v := api.Value{Kind: r.IntN(2), N: int64(r.IntN(2)), S: l[r.IntN(2)]}
	return api.Operand{Var: l[r.IntN(3)], Attr: l[r.IntN(3)], Value: v}
}

// eachTree goes through trees by chance, of both sorts.
func eachTree(many int, f func(r *rand.Rand, n api.Node)) {
	r := dice()
	for i := range many {
		n := someTree(r, 1+r.IntN(30), names(1+r.IntN(8)))
		if i%2 == 0 {
			n = anyTree(r, 1+r.IntN(30), append(names(3), ""))
		}
		f(r, n)
	}
}

// taken is a pattern by chance that may be.
func taken(r *rand.Rand) api.Pattern {
	for {
		p := pattern(someTree(r, 1+r.IntN(20), names(12)))
		for _, name := range check.Vars(p.Root) {
			if r.IntN(3) == 0 && len(p.Where) < api.MaxConds {
				p.Where = append(p.Where, cond(attr(name, "x"), 1+r.IntN(6), num(int64(r.IntN(9)))))
			}
		}
		if check.Pattern(p) == api.OK {
			return p
		}
	}
}
