package syntax_test

import (
	"strings"
	"testing"

	"eyrie/api"
	"eyrie/syntax"
)

// chain is a tree of n levels above a node: each has the level below it as its first or its last kid.
func chain(n int, low api.Node, kinds ...int) api.Node {
	for i := range n {
		kids := []api.Node{a(), low}
		if i%3 == 0 {
			kids = []api.Node{low, a()}
		}
		low = api.Node{Kind: kinds[i%len(kinds)], Kids: kids}
	}
	return low
}

// The deepest trees that texts of MaxPattern bytes say, or nearly so.
func TestDeepTexts(t *testing.T) {
	for _, kind := range []struct {
		sign string
		kind int
	}{{"&", api.NdAnd}, {";", api.NdSeq}, {"|", api.NdOr}} {
		n := (api.MaxPattern - 6) / len("A as a&()")
		text := strings.Repeat("A as a"+kind.sign+"(", n) + "B as b" + strings.Repeat(")", n)
		want := b()
		for range n {
			want = api.Node{Kind: kind.kind, Kids: []api.Node{a(), want}}
		}
		wantExpr(t, text, want)
		wantNoExpr(t, text[:len(text)-1], len(text)-1, api.ErrSyntax)
		wantNoExpr(t, text+")", len(text), api.ErrSyntax)
		text = strings.Repeat("(", n) + "B as b" + strings.Repeat(kind.sign+"A as a)", n)
		want = b()
		for range n {
			want = api.Node{Kind: kind.kind, Kids: []api.Node{want, a()}}
		}
		wantExpr(t, text, want)
	}
	// three levels for one bracket
	const step = "A as a|A as a;A as a&("
	n := (api.MaxPattern - 6) / (len(step) + 1)
	want := b()
	for range n {
		want = or(a(), seq(a(), and(a(), want)))
	}
	wantExpr(t, strings.Repeat(step, n)+"B as b"+strings.Repeat(")", n), want)
	s, err := syntax.Show(want)
	if len(treeText(want)) <= api.MaxPattern || s != "" || err != api.ErrLong {
		t.Errorf("%d bytes, error %d", len(s), err)
	}
	// brackets alone
	for _, n := range []int{2045, api.MaxPattern} {
		open := strings.Repeat("(", n)
		wantNoExpr(t, open, n, api.ErrSyntax)
		if n == 2045 {
			wantExpr(t, open+"A as a"+strings.Repeat(")", n), a())
			wantNoExpr(t, open+"A as a"+strings.Repeat(")", n-1)+"]", 2*n+5, api.ErrSyntax)
		}
	}
	wantNoPattern(t, ahead+strings.Repeat("(", api.MaxPattern-len(ahead)), api.MaxPattern, api.ErrSyntax)
	wantNoExpr(t, strings.Repeat("A as a;(", 512), api.MaxPattern, api.ErrSyntax)
}

// The deepest trees whose texts are just not too long.
func TestDeepThereAndBack(t *testing.T) {
	for _, kinds := range [][]int{{api.NdAnd}, {api.NdSeq}, {api.NdOr}, {api.NdAnd, api.NdSeq, api.NdOr}, {api.NdOr, api.NdSeq, api.NdAnd}, {api.NdSeq, api.NdOr}} {
		n := 100
		for len(treeText(chain(n, b(), kinds...))) <= api.MaxPattern {
			n++
		}
		if n < 200 {
			t.Errorf("%v: only %d levels", kinds, n)
		}
		for more := range 3 {
			if s, err := syntax.Show(chain(n+more, b(), kinds...)); s != "" || err != api.ErrLong {
				t.Errorf("%v, %d levels: %d bytes, error %d", kinds, n+more, len(s), err)
			}
			tree := chain(n-1-more, b(), kinds...)
			wantShow(t, tree, treeText(tree))
			wantExpr(t, treeText(tree), tree)
		}
	}
}

// Trees deeper than any text says: their words are told, but they are too long; a fault at their end is found.
func TestDeeperThanTexts(t *testing.T) {
	for _, n := range []int{1000, 5000, 1 << 16} {
		for _, kinds := range [][]int{{api.NdAnd}, {api.NdSeq, api.NdAnd, api.NdOr}} {
			tree := chain(n, b(), kinds...)
			p := pattern("p", 10, tree, one())
			l, err := syntax.Words(p)
			if err != api.OK || len(l) < 9+3+4*n {
				t.Fatalf("%d levels: %d words, error %d", n, len(l), err)
			}
			open, shut := 0, 0
			for _, w := range l {
				switch w.Text {
				case "(":
					open++
				case ")":
					shut++
				}
			}
			if open != shut || len(kinds) == 1 && open != n-1 {
				t.Errorf("%d levels: %d brackets and %d", n, open, shut)
			}
			if s, err := syntax.Print(p); s != "" || err != api.ErrLong {
				t.Errorf("%d levels: Print: %d bytes, error %d", n, len(s), err)
			}
			if s, err := syntax.Show(tree); s != "" || err != api.ErrLong {
				t.Errorf("%d levels: Show: %d bytes, error %d", n, len(s), err)
			}
			for _, low := range []api.Node{{}, term("A", ""), seq(a()), term("A", "a", api.Cond{})} {
				tree := chain(n, low, kinds...)
				if l, err := syntax.Words(pattern("p", 10, tree)); l != nil || err != api.ErrText {
					t.Errorf("%d levels: %d words, error %d", n, len(l), err)
				}
				if s, err := syntax.Show(tree); s != "" || err != api.ErrText {
					t.Errorf("%d levels: %d bytes, error %d", n, len(s), err)
				}
			}
		}
	}
}

// Kids that hold themselves have no end: no text says them.
func TestKidsThatHoldThemselves(t *testing.T) {
	for _, kind := range []int{api.NdSeq, api.NdAnd, api.NdOr} {
		for at := range 2 {
			kids := []api.Node{a(), b()}
			kids[at] = api.Node{Kind: kind, Kids: kids}
			p := pattern("p", 10, kids[at])
			if l, err := syntax.Words(p); l != nil || err != api.ErrText {
				t.Errorf("%d words, error %d", len(l), err)
			}
			if s, err := syntax.Print(p); s != "" || err != api.ErrText {
				t.Errorf("Print: %d bytes, error %d", len(s), err)
			}
			if s, err := syntax.Show(p.Root); s != "" || err != api.ErrText {
				t.Errorf("Show: %d bytes, error %d", len(s), err)
			}
			kids[at].Kids = nil
		}
	}
}

func TestWide(t *testing.T) {
	for sign, make := range map[string]func(...api.Node) api.Node{";": seq, "&": and, "|": or} {
		n := api.MaxPattern / len("A as a;")
		text := strings.Repeat("A as a"+sign, n-1) + "A as a"
		var kids []api.Node
		for range n {
			kids = append(kids, a())
		}
		wantExpr(t, text, make(kids...))
		for len(kids) < 1<<16 {
			kids = append(kids, kids...)
		}
		wide := make(kids...)
		if l, err := syntax.Words(pattern("p", 10, wide)); err != api.OK || len(l) != 5+4*len(kids)-1 {
			t.Errorf("%d words, error %d", len(l), err)
		}
		if s, err := syntax.Show(wide); s != "" || err != api.ErrLong {
			t.Errorf("%d bytes, error %d", len(s), err)
		}
		kids[len(kids)-1].Kind = api.NdAnd
		if s, err := syntax.Show(wide); s != "" || err != api.ErrText {
			t.Errorf("%d bytes, error %d", len(s), err)
		}
	}
	// many conditions, and a long list of them in each of many terms
	var conds []api.Cond
	for range 1 << 16 {
		conds = append(conds, one())
	}
	p := pattern("p", 10, term("A", "a", conds...), conds...)
	wantLong(t, p)
	conds[len(conds)-1].Rel = 0
	if s, err := syntax.Print(p); s != "" || err != api.ErrText {
		t.Errorf("%d bytes, error %d", len(s), err)
	}
	if s, err := syntax.Print(pattern(strings.Repeat("p", 1<<24), 10, a())); s != "" || err != api.ErrText {
		t.Errorf("%d bytes, error %d", len(s), err)
	}
}
