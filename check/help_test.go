package check_test

import (
	"math/rand/v2"
	"slices"
	"strings"
	"testing"

	"eyrie/api"
	"eyrie/check"
	"eyrie/syntax"
	"eyrie/value"
)

// dice are the same at each run.
func dice() *rand.Rand { return rand.New(rand.NewPCG(70, 71)) }

// Trees, conditions and patterns.

func term(kind, name string, tests ...api.Cond) api.Node {
	return api.Node{Kind: api.NdTerm, Type: kind, Var: name, Tests: tests}
}

// of is a term by its variable.
func of(name string) api.Node { return term("T", name) }

func seq(kids ...api.Node) api.Node { return api.Node{Kind: api.NdSeq, Kids: kids} }

func and(kids ...api.Node) api.Node { return api.Node{Kind: api.NdAnd, Kids: kids} }

func or(kids ...api.Node) api.Node { return api.Node{Kind: api.NdOr, Kids: kids} }

// tree is the tree of a text.
func tree(t testing.TB, text string) api.Node {
	t.Helper()
	n, at, err := syntax.Expr(text)
	if err != api.OK {
		t.Fatalf("%q: error %d at %d", text, err, at)
	}
	return n
}

// names are some variables, each another one.
func names(n int) []string {
	var l []string
	for i := range n {
		l = append(l, "v"+value.Text(api.Value{Kind: api.VInt, N: int64(i)}))
	}
	return l
}

// terms are some terms, each with a variable of its own.
func terms(n int) []api.Node {
	var l []api.Node
	for _, name := range names(n) {
		l = append(l, of(name))
	}
	return l
}

func num(n int64) api.Operand { return api.Operand{Value: api.Value{Kind: api.VInt, N: n}} }

func str(s string) api.Operand { return api.Operand{Value: api.Value{Kind: api.VStr, S: s}} }

func attr(name, attr string) api.Operand { return api.Operand{Var: name, Attr: attr} }

func cond(left api.Operand, rel int, right api.Operand) api.Cond {
	return api.Cond{Left: left, Rel: rel, Right: right}
}

// test is a condition of a term's own that may be.
func test() api.Cond { return cond(attr("", "x"), api.RelEq, num(1)) }

func tests(n int) []api.Cond { return slices.Repeat([]api.Cond{test()}, n) }

// where is a condition on a variable's event that may be.
func where(name string) api.Cond { return cond(attr(name, "x"), api.RelEq, num(1)) }

func pattern(root api.Node, where ...api.Cond) api.Pattern {
	return api.Pattern{Name: "p", Window: 10, Root: root, Where: where}
}

// kinds are the kinds of nodes, and some that are none.
func kinds() []int {
	return []int{api.NdTerm, api.NdSeq, api.NdAnd, api.NdOr, 0, -1, 5, 1 << 40, -1 << 63}
}

// notNames are texts that value.Name does not take.
func notNames() []string {
	return []string{"", "1", "1a", "a b", "a.", "a-b", "\x00", "a\xff", "é", " a", "a ", strings.Repeat("a", api.MaxName+1)}
}

// longest is a name that may just be.
func longest() string { return strings.Repeat("z", api.MaxName) }

// What is asked.

func wantErr(t *testing.T, what string, got, want api.Errno) {
	t.Helper()
	if got != want {
		t.Errorf("%s: error %d, not %d", what, got, want)
	}
}

func wantShape(t *testing.T, n api.Node, want api.Errno) {
	t.Helper()
	if err := check.Shape(n); err != want {
		t.Errorf("Shape of %.500s: error %d, not %d", shown(n), err, want)
	}
	// a pattern's Root is asked the same
	if err := check.Pattern(pattern(n)); want != api.OK && err != want {
		t.Errorf("Pattern of %.500s: error %d, not %d", shown(n), err, want)
	}
}

func wantBinds(t *testing.T, n api.Node, want api.Errno) {
	t.Helper()
	if err := check.Binds(n); err != want {
		t.Errorf("Binds of %.500s: error %d, not %d", shown(n), err, want)
	}
	if err := check.Pattern(pattern(n)); check.Shape(n) == api.OK && err != want {
		t.Errorf("Pattern of %.500s: error %d, not %d", shown(n), err, want)
	}
}

func wantPattern(t *testing.T, p api.Pattern, want api.Errno) {
	t.Helper()
	if err := check.Pattern(p); err != want {
		t.Errorf("Pattern of %.500s: error %d, not %d", shownPattern(p), err, want)
	}
}

// By chance.

// someTree is a tree of about so many nodes, such as may be but for its variables.
func someTree(r *rand.Rand, most int, vars []string) api.Node {
	if most < 2 || r.IntN(8) == 0 {
		return of(vars[r.IntN(len(vars))])
	}
	n := api.Node{Kind: []int{api.NdSeq, api.NdAnd, api.NdOr}[r.IntN(3)]}
	many := 2 + r.IntN(3)
	for range many {
		n.Kids = append(n.Kids, someTree(r, most/many, vars))
	}
	return n
}

// anyTree is a tree whose nodes may be anything.
func anyTree(r *rand.Rand, most int, vars []string) api.Node {
	n := api.Node{Kind: r.IntN(6)}
	if r.IntN(4) == 0 {
		n.Type = vars[r.IntN(len(vars))]
	}
	if most < 2 || r.IntN(3) == 0 {
		n.Var = vars[r.IntN(len(vars))]
	}
	if r.IntN(8) == 0 {
		n.Tests = someConds(r, r.IntN(3), vars)
	}
	if most < 2 {
		return n
	}
	many := r.IntN(4)
	for range many {
		n.Kids = append(n.Kids, anyTree(r, (most-1)/many, vars))
	}
	return n
}

func someSide(r *rand.Rand, vars []string) api.Operand {
	switch r.IntN(3) {
	case 0:
		return num(int64(r.IntN(5)))
	case 1:
		return str("s")
	}
	return attr(vars[r.IntN(len(vars))], []string{"x", "y"}[r.IntN(2)])
}

func someConds(r *rand.Rand, n int, vars []string) []api.Cond {
	var l []api.Cond
	for range n {
		l = append(l, cond(someSide(r, vars), 1+r.IntN(6), someSide(r, vars)))
	}
	return l
}

// taken is a pattern by chance that Pattern takes.
func taken(r *rand.Rand) api.Pattern {
	for {
		p := pattern(someTree(r, 1+r.IntN(20), names(12)))
		if vars := check.Vars(p.Root); len(vars) > 0 {
			for range r.IntN(6) {
				p.Where = append(p.Where, cond(attr(vars[r.IntN(len(vars))], "x"), 1+r.IntN(6), someSide(r, vars)))
			}
		}
		if check.Pattern(p) == api.OK {
			return p
		}
	}
}
