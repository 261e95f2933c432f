package syntax_test

import (
	"math"
	"math/rand/v2"
	"slices"
	"strings"
	"testing"

	"eyrie/api"
	"eyrie/lex"
	"eyrie/syntax"
)

// dice are the same at each run.
func dice() *rand.Rand { return rand.New(rand.NewPCG(60, 61)) }

// Trees, conditions and patterns.

func term(kind, name string, tests ...api.Cond) api.Node {
	return api.Node{Kind: api.NdTerm, Type: kind, Var: name, Tests: tests}
}

func seq(kids ...api.Node) api.Node { return api.Node{Kind: api.NdSeq, Kids: kids} }

func and(kids ...api.Node) api.Node { return api.Node{Kind: api.NdAnd, Kids: kids} }

func or(kids ...api.Node) api.Node { return api.Node{Kind: api.NdOr, Kids: kids} }

func cond(left api.Operand, rel int, right api.Operand) api.Cond {
	return api.Cond{Left: left, Rel: rel, Right: right}
}

func own(attr string) api.Operand { return api.Operand{Attr: attr} }

func of(name, attr string) api.Operand { return api.Operand{Var: name, Attr: attr} }

func num(n int64) api.Operand { return api.Operand{Value: api.Value{Kind: api.VInt, N: n}} }

func str(s string) api.Operand { return api.Operand{Value: api.Value{Kind: api.VStr, S: s}} }

func pattern(name string, window int64, root api.Node, where ...api.Cond) api.Pattern {
	return api.Pattern{Name: name, Window: window, Root: root, Where: where}
}

// one is a condition that may be.
func one() api.Cond { return cond(own("x"), api.RelEq, num(1)) }

func a() api.Node { return term("A", "a") }

func b() api.Node { return term("B", "b") }

func c() api.Node { return term("C", "c") }

func d() api.Node { return term("D", "d") }

// alike tells whether two trees are the same; empty and nil lists are.
func alike(m, n api.Node) bool {
	return m.Kind == n.Kind && m.Var == n.Var && m.Type == n.Type && slices.Equal(m.Tests, n.Tests) && slices.EqualFunc(m.Kids, n.Kids, alike)
}

func same(p, q api.Pattern) bool {
	return p.Name == q.Name && p.Window == q.Window && alike(p.Root, q.Root) && slices.Equal(p.Where, q.Where)
}

// cloned is a tree in memory of its own.
func cloned(n api.Node) api.Node {
	n.Tests = slices.Clone(n.Tests)
	n.Kids = slices.Clone(n.Kids)
	for i := range n.Kids {
		n.Kids[i] = cloned(n.Kids[i])
	}
	return n
}

func clonedPattern(p api.Pattern) api.Pattern {
	p.Root = cloned(p.Root)
	p.Where = slices.Clone(p.Where)
	return p
}

// What a text should say.

func wantPattern(t *testing.T, text string, want api.Pattern) {
	t.Helper()
	p, at, err := syntax.Parse(text)
	if err != api.OK || at != 0 || !same(p, want) {
		t.Errorf("%.300q: %+v, place %d, error %d; not %+v", text, p, at, err, want)
	}
}

func wantExpr(t *testing.T, text string, want api.Node) {
	t.Helper()
	n, at, err := syntax.Expr(text)
	if err != api.OK || at != 0 || !alike(n, want) {
		t.Errorf("%.300q: %+v, place %d, error %d; not %+v", text, n, at, err, want)
	}
}

func wantConds(t *testing.T, text string, want ...api.Cond) {
	t.Helper()
	l, at, err := syntax.Conds(text)
	if err != api.OK || at != 0 || !slices.Equal(l, want) {
		t.Errorf("%.300q: %+v, place %d, error %d; not %+v", text, l, at, err, want)
	}
}

func wantNoPattern(t *testing.T, text string, place int, want api.Errno) {
	t.Helper()
	if p, at, err := syntax.Parse(text); err != want || at != place || !same(p, api.Pattern{}) || p.Where != nil || p.Root.Kids != nil || p.Root.Tests != nil {
		t.Errorf("Parse of %.300q: %+v, place %d, error %d; not place %d, error %d", text, p, at, err, place, want)
	}
}

func wantNoExpr(t *testing.T, text string, place int, want api.Errno) {
	t.Helper()
	if n, at, err := syntax.Expr(text); err != want || at != place || !alike(n, api.Node{}) || n.Kids != nil || n.Tests != nil {
		t.Errorf("Expr of %.300q: %+v, place %d, error %d; not place %d, error %d", text, n, at, err, place, want)
	}
}

func wantNoConds(t *testing.T, text string, place int, want api.Errno) {
	t.Helper()
	if l, at, err := syntax.Conds(text); err != want || at != place || l != nil {
		t.Errorf("Conds of %.300q: %+v, place %d, error %d; not place %d, error %d", text, l, at, err, place, want)
	}
}

const ahead = "pattern p within 10 : "

// wantTree asks for an expr alone, and as that of a pattern.
func wantTree(t *testing.T, text string, want api.Node) {
	t.Helper()
	wantExpr(t, text, want)
	wantPattern(t, ahead+text, pattern("p", 10, want))
	wantPattern(t, ahead+text+" where x = 1", pattern("p", 10, want, one()))
}

// wantNoTree asks that an expr goes wrong at a place, alone and in a pattern.
func wantNoTree(t *testing.T, text string, place int) {
	t.Helper()
	wantNoExpr(t, text, place, api.ErrSyntax)
	wantNoPattern(t, ahead+text, len(ahead)+place, api.ErrSyntax)
}

const (
	aheadTests = "A as a["
	aheadWhere = "pattern p within 10 : A as a where "
)

// wantAll asks for conds alone, as a term's tests, and as those of a pattern.
func wantAll(t *testing.T, text string, want ...api.Cond) {
	t.Helper()
	wantConds(t, text, want...)
	wantTree(t, aheadTests+text+"]", term("A", "a", want...))
	wantPattern(t, aheadWhere+text, pattern("p", 10, a(), want...))
}

// wantNone asks that conds go wrong at a place, alone and where conds stand.
func wantNone(t *testing.T, text string, place int) {
	t.Helper()
	wantNoConds(t, text, place, api.ErrSyntax)
	wantNoTree(t, aheadTests+text, len(aheadTests)+place)
	wantNoPattern(t, aheadWhere+text, len(aheadWhere)+place, api.ErrSyntax)
}

// bare is words with no places.
func bare(l []api.Token) []api.Token {
	l = slices.Clone(l)
	for i := range l {
		l[i].At = 0
	}
	return l
}

// scanned is a text's words.
func scanned(t *testing.T, text string) []api.Token {
	t.Helper()
	l, at, err := lex.Scan(text)
	if err != api.OK {
		t.Fatalf("%.300q: error %d at %d", text, err, at)
	}
	return l
}

// By chance: what Words takes.

func someName(r *rand.Rand) string {
	switch r.IntN(4) {
	case 0:
		return []string{"pattern", "within", "as", "where"}[r.IntN(4)]
	case 1:
		return strings.Repeat("n", 1+r.IntN(api.MaxName))
	}
	return []string{"a", "b", "A", "_", "x1", "Z_9"}[r.IntN(6)]
}

func someWindow(r *rand.Rand) int64 { return int64(r.Uint64()) >> r.IntN(64) }

func someSide(r *rand.Rand) api.Operand {
	switch r.IntN(4) {
	case 0:
		return num(someWindow(r))
	case 1:
		s := make([]byte, r.IntN(api.MaxString+1)>>r.IntN(7))
		for i := range s {
			s[i] = byte(r.Uint32())
		}
		return str(string(s))
	case 2:
		return own(someName(r))
	}
	return of(someName(r), someName(r))
}

func someConds(r *rand.Rand, n int) []api.Cond {
	var l []api.Cond
	for range n {
		l = append(l, cond(someSide(r), 1+r.IntN(6), someSide(r)))
	}
	return l
}

// someTree has at most some nodes.
func someTree(r *rand.Rand, most int) api.Node {
	if most < 2 || r.IntN(6) == 0 {
		return term(someName(r), someName(r), someConds(r, max(0, r.IntN(6)-3))...)
	}
	n := api.Node{Kind: []int{api.NdSeq, api.NdAnd, api.NdOr}[r.IntN(3)]}
	many := 2 + r.IntN(3)
	for range many {
		n.Kids = append(n.Kids, someTree(r, most/many))
	}
	return n
}

func somePattern(r *rand.Rand) api.Pattern {
	return pattern(someName(r), someWindow(r), someTree(r, 1+r.IntN(30)), someConds(r, max(0, r.IntN(6)-3))...)
}

// someText is a pattern's text that is not too long.
func someText(r *rand.Rand) string {
	for {
		if text := patternText(somePattern(r)); len(text) <= api.MaxPattern {
			return text
		}
	}
}

func someBlank(r *rand.Rand, need bool) string {
	s := ""
	for r.IntN(2) == 0 || need && s == "" {
		s += []string{" ", "\t", "\n", "\r", "#\n", "# A as ( \"b\" 'c'\n", "#\xff#\r\n", "# where ! \\\n"}[r.IntN(8)]
	}
	return s
}

// spread is words with blanks between them, and around them; where two may be told from each other without blanks, there may be none.
func spread(r *rand.Rand, l []api.Token) string {
	text := someBlank(r, false)
	for i, w := range l {
		text += w.Text
		need := false
		if i+1 < len(l) {
			both, _, err := lex.Scan(w.Text + l[i+1].Text)
			need = err != api.OK || !slices.Equal(bare(both), bare(l[i:i+2]))
		}
		text += someBlank(r, need)
	}
	return text
}

// Windows that are edges.
func windows() []int64 {
	return []int64{0, 1, -1, 10, api.MaxTime, api.MaxTime + 1, -5, math.MaxInt64, math.MinInt64}
}
