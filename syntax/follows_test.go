package syntax_test

import (
	"math/rand/v2"
	"reflect"
	"slices"
	"strings"
	"testing"

	"eyrie/api"
	"eyrie/syntax"
)

// P6.4, P6.5

func TestThereAndBack(t *testing.T) {
	r := dice()
	long := 0
	for range 3000 {
		p := somePattern(r)
		s, err := syntax.Print(p)
		if err == api.ErrLong && len(patternText(p)) > api.MaxPattern {
			long++
			continue
		}
		if err != api.OK {
			t.Fatalf("%+v: error %d", p, err)
		}
		wantPattern(t, s, p)
		wantPattern(t, spread(r, scanned(t, s)), p)
		n, err := syntax.Show(p.Root)
		if err != api.OK {
			t.Fatalf("%+v: error %d", p.Root, err)
		}
		wantExpr(t, n, p.Root)
		for _, c := range p.Where {
			s, err := syntax.Cond(c)
			if err != api.OK {
				t.Fatalf("%+v: error %d", c, err)
			}
			wantConds(t, s, c)
			wantConds(t, s+","+s, c, c)
		}
	}
	if long > 1000 {
		t.Errorf("%d are too long", long)
	}
}

func TestBlanksSayNothing(t *testing.T) {
	r := dice()
	for range 600 {
		l := scanned(t, someText(r))
		l = l[:min(len(l), 300)]
		var texts []string
		for _, w := range l {
			texts = append(texts, w.Text)
		}
		p, _, err := syntax.Parse(strings.Join(texts, " "))
		for range 4 {
			text := spread(r, l)
			if len(text) > api.MaxPattern {
				continue
			}
			if q, _, is := syntax.Parse(text); is != err || !same(p, q) {
				t.Errorf("%q: %+v, error %d, not %+v, error %d", text, q, is, p, err)
			}
		}
	}
	full := "pattern p within 10:A as a[x>3,y=\"s\"];(B as b|C as c)where a.x=b.x,1<=y"
	want := modelPattern(scanned(t, full))
	wantPattern(t, full, want)
	for _, blank := range []string{" ", "\n", "\t\t", "\r\n", "#\n", "# A as a ; ( \"\n", " # where\n# x = 1\n "} {
		text := blank
		for _, w := range scanned(t, full) {
			text += w.Text + blank
		}
		wantPattern(t, text, want)
		wantPattern(t, text+"# the end ; A as", want)
	}
}

// P6.6

// otherwise is a tree's text with brackets, and with blanks, as nobody needs them.
func otherwise(r *rand.Rand, n api.Node) string {
	s := ""
	if n.Kind == api.NdTerm {
		s = treeText(n)
	}
	for i, k := range n.Kids {
		if i > 0 {
			s += someBlank(r, false) + modelSign(n.Kind)
		}
		kid := otherwise(r, k)
		if needBrackets(k.Kind, n.Kind) || r.IntN(4) == 0 {
			kid = "(" + kid + ")"
		}
		s += kid
	}
	for r.IntN(4) == 0 {
		s = "(" + someBlank(r, false) + s + ")"
	}
	return s
}

func TestWhatParseTells(t *testing.T) {
	r := dice()
	printed, long := 0, 0
	for range 3000 {
		want := pattern(someName(r), someWindow(r), someTree(r, 1+r.IntN(20)), someConds(r, max(0, r.IntN(6)-3))...)
		text := "pattern " + want.Name + "#\nwithin " + sideText(num(want.Window)) + ":" + otherwise(r, want.Root)
		if len(want.Where) > 0 {
			text += "\nwhere " + condsText(want.Where)
		}
		if len(text) > api.MaxPattern {
			continue
		}
		p, _, err := syntax.Parse(text)
		if err != api.OK || !same(p, want) {
			t.Fatalf("%q: %+v, error %d; not %+v", text, p, err, want)
		}
		s, err := syntax.Print(p)
		if len(patternText(want)) > api.MaxPattern {
			long++
			wantLong(t, p)
			continue
		}
		if err != api.OK || s != patternText(want) {
			t.Fatalf("%q: %q, error %d", text, s, err)
		}
		wantPattern(t, s, p)
		printed++
	}
	if printed < 2000 {
		t.Errorf("%d are printed, %d are too long", printed, long)
	}
}

// A text that is not too long, of which Print makes one that is: blanks stand between all its words.
func TestParseTellsWhatIsTooLong(t *testing.T) {
	text := "pattern p within 1:A as a[x=1" + strings.Repeat(",x=1", 1000) + "]"
	p, at, err := syntax.Parse(text)
	if err != api.OK || at != 0 || len(p.Root.Tests) != 1001 {
		t.Fatalf("%d tests, error %d at %d", len(p.Root.Tests), err, at)
	}
	wantLong(t, p)
}

// R6: the same calls answer the same.
func TestAgain(t *testing.T) {
	r := dice()
	for range 100 {
		p := somePattern(r)
		l, err := syntax.Words(p)
		s, is := syntax.Print(p)
		for range 20 {
			m, again := syntax.Words(clonedPattern(p))
			if !slices.Equal(l, m) || again != err {
				t.Fatalf("%v, error %d; then %v, error %d", l, err, m, again)
			}
			if o, again := syntax.Print(clonedPattern(p)); o != s || again != is {
				t.Fatalf("%q, error %d; then %q, error %d", s, is, o, again)
			}
		}
		text := patternText(p)
		q, at, err := syntax.Parse(text)
		for range 20 {
			o, also, again := syntax.Parse(text)
			if !reflect.DeepEqual(q, o) || also != at || again != err {
				t.Fatalf("%q: %+v, then %+v", text, q, o)
			}
		}
	}
}

// R3: what is answered is nobody's else.

// spoil changes all that a tree holds, and what stands behind its lists.
func spoil(n *api.Node) {
	for i := range n.Kids {
		spoil(&n.Kids[i])
	}
	spoilConds(n.Tests)
	_ = append(n.Kids, api.Node{Kind: 99}, api.Node{Kind: 98})
	for i := range n.Kids {
		n.Kids[i] = api.Node{Kind: 97, Var: "spoilt"}
	}
}

func spoilConds(l []api.Cond) {
	_ = append(l, api.Cond{Rel: 99}, api.Cond{Rel: 98})
	for i := range l {
		l[i] = api.Cond{Rel: 97}
	}
}

func TestAnswersAreNobodysElse(t *testing.T) {
	r := dice()
	for range 500 {
		text := someText(r)
		p, _, err := syntax.Parse(text)
		if err != api.OK {
			t.Fatalf("%q: error %d", text, err)
		}
		want := clonedPattern(p)
		other, _, _ := syntax.Parse(text)
		spoil(&other.Root)
		spoilConds(other.Where)
		if !same(p, want) {
			t.Fatalf("%q: two answers share memory", text)
		}
		// no two lists of one answer
		for i := range want.Root.Kids {
			p, _, _ := syntax.Parse(text)
			spoil(&p.Root.Kids[i])
			for j, k := range p.Root.Kids {
				if j != i && !alike(k, want.Root.Kids[j]) {
					t.Fatalf("%q: the kids %d and %d share memory", text, i, j)
				}
			}
		}
		spoil(&p.Root)
		if !slices.Equal(p.Where, want.Where) {
			t.Fatalf("%q: the root and the conditions share memory", text)
		}
		l, _ := syntax.Words(want)
		m, _ := syntax.Words(want)
		stood := slices.Clone(m)
		_ = append(l, api.Token{Kind: 99})
		clear(l)
		if !slices.Equal(m, stood) {
			t.Fatalf("%q: two lists of words share memory", text)
		}
	}
}

// roomy is a tree whose lists have room behind them, in which something stands.
func roomy(n api.Node) api.Node {
	var kids []api.Node
	for _, k := range n.Kids {
		kids = append(kids, roomy(k))
	}
	kids = append(kids, api.Node{Var: "behind"})
	n.Kids = kids[:len(kids)-1]
	tests := append(slices.Clone(n.Tests), api.Cond{Rel: 77})
	n.Tests = tests[:len(tests)-1]
	return n
}

// behind tells whether what stands behind all lists of a roomy tree still stands there.
func behind(n api.Node) bool {
	for _, k := range n.Kids {
		if !behind(k) {
			return false
		}
	}
	kids, tests := n.Kids[:len(n.Kids)+1], n.Tests[:len(n.Tests)+1]
	return kids[len(n.Kids)].Var == "behind" && tests[len(n.Tests)].Rel == 77
}

// What is handed in is not written to.
func TestArgumentsStay(t *testing.T) {
	r := dice()
	for range 500 {
		p := somePattern(r)
		if r.IntN(3) == 0 {
			p.Name = ""
		}
		p.Root = roomy(p.Root)
		was := clonedPattern(p)
		syntax.Words(p)
		syntax.Print(p)
		syntax.Show(p.Root)
		if !same(p, was) || !behind(p.Root) {
			t.Fatalf("%+v was written to: %+v", was, p)
		}
	}
}
