package check_test

import (
	"slices"
	"testing"

	"eyrie/api"
	"eyrie/check"
)

// P7.6

func hasOr(n api.Node) bool {
	return slices.ContainsFunc(below(n), func(m api.Node) bool { return m.Kind == api.NdOr && len(m.Kids) > 0 })
}

// namesKids tells whether a node with Kids has a Var, as no shape has.
func namesKids(n api.Node) bool {
	return slices.ContainsFunc(below(n), func(m api.Node) bool { return m.Var != "" && len(m.Kids) > 0 })
}

func TestSureIsSomeOfVars(t *testing.T) {
	r := dice()
	without, fewer := 0, 0
	for i := range 10000 {
		n := someTree(r, 1+r.IntN(40), names(1+r.IntN(12)))
		if i%3 == 0 {
			n = anyTree(r, 1+r.IntN(40), append(names(9), ""))
		}
		if i%3 == 1 {
			n = taken(r).Root
		}
		vars, sure := check.Vars(n), check.Sure(n)
		for _, l := range [][]string{vars, sure} {
			for i, name := range l {
				if name == "" || i > 0 && l[i-1] >= name {
					t.Fatalf("%s: %q do not rise, each once", shown(n), l)
				}
			}
		}
		for _, name := range sure {
			if _, is := slices.BinarySearch(vars, name); !is {
				t.Fatalf("%s: sure of %q, of vars %q", shown(n), sure, vars)
			}
		}
		if !hasOr(n) && !namesKids(n) {
			without++
			if !slices.Equal(vars, sure) {
				t.Fatalf("%s, without an NdOr: sure of %q, of vars %q", shown(n), sure, vars)
			}
		} else if len(sure) < len(vars) {
			fewer++
		}
	}
	if without < 500 || fewer < 500 {
		t.Errorf("%d without an NdOr, %d sure of fewer", without, fewer)
	}
}

// P7.7

func TestEachTreeOfWhatIsTaken(t *testing.T) {
	r := dice()
	inner := 0
	for range 3000 {
		p := taken(r)
		for _, n := range below(p.Root) {
			if err := check.Shape(n); err != api.OK {
				t.Fatalf("%s, within %s: Shape says %d", shown(n), shownPattern(p), err)
			}
			if err := check.Binds(n); err != api.OK {
				t.Fatalf("%s, within %s: Binds says %d", shown(n), shownPattern(p), err)
			}
			if len(n.Kids) > 0 {
				inner++
			}
			// and may be a pattern's Root
			wantPattern(t, pattern(n), api.OK)
		}
	}
	if inner < 3000 {
		t.Errorf("%d inner nodes", inner)
	}
	// the greatest ones that there are
	for _, n := range []api.Node{tall(8), and(terms(12)...), seq(or(terms(12)[:4]...), or(terms(12)[4:8]...), or(terms(12)[8:]...))} {
		wantPattern(t, pattern(n), api.OK)
		for _, m := range below(n) {
			wantShape(t, m, api.OK)
			wantBinds(t, m, api.OK)
		}
	}
}

// P7.8

func TestSomeOfTheWhereLeftOut(t *testing.T) {
	r := dice()
	for range 1000 {
		p := taken(r)
		all := p.Where
		for some := range 1 << len(all) {
			p.Where = nil
			for i, c := range all {
				if some>>i&1 == 1 {
					p.Where = append(p.Where, c)
				}
			}
			wantPattern(t, p, api.OK)
		}
		slices.Reverse(all)
		p.Where = all
		wantPattern(t, p, api.OK)
		for many := range api.MaxConds - len(all) {
			p.Where = append(all[:len(all):len(all)], slices.Repeat([]api.Cond{where(check.Vars(p.Root)[0])}, many)...)
			wantPattern(t, p, api.OK)
		}
	}
}

// R3: what is handed in is not written to, what is answered is nobody's else.

// roomy is a tree whose lists have room behind them, in which something stands.
func roomy(n api.Node) api.Node {
	var kids []api.Node
	for _, k := range n.Kids {
		kids = append(kids, roomy(k))
	}
	kids = append(kids, api.Node{Var: "behind"})
	n.Kids = kids[:len(kids)-1]
	tests := append(slices.Clone(n.Tests), api.Cond{Rel: 77})
	n.Tests = tests[:len(tests)-1]
	return n
}

// behind tells whether what stands behind all lists of a roomy tree still stands there.
func behind(n api.Node) bool {
	for _, k := range n.Kids {
		if !behind(k) {
			return false
		}
	}
	kids, tests := n.Kids[:len(n.Kids)+1], n.Tests[:len(n.Tests)+1]
	return kids[len(n.Kids)].Var == "behind" && tests[len(n.Tests)].Rel == 77
}

func TestArgumentsStay(t *testing.T) {
	r := dice()
	for i := range 1000 {
		p := taken(r)
		if i%2 == 0 {
			p = pattern(anyTree(r, 1+r.IntN(20), append(names(5), "")), someConds(r, 3, names(5))...)
		}
		p.Root = roomy(p.Root)
		was := modelClone(p)
		vars := append(names(5), "behind")[:5]
		check.Pattern(p)
		check.Shape(p.Root)
		check.Binds(p.Root)
		check.Vars(p.Root)
		check.Sure(p.Root)
		check.Terms(p.Root)
		check.Deep(p.Root)
		check.Alts(p.Root)
		check.Same(p, p)
		check.Clone(p)
		for _, c := range p.Where {
			check.Cond(c, vars...)
		}
		if !modelSame(p, was) || !behind(p.Root) || !slices.Equal(vars[:6], append(names(5), "behind")) {
			t.Fatalf("%s was written to: %s", shownPattern(was), shownPattern(p))
		}
	}
}

func TestAnswersAreNobodysElse(t *testing.T) {
	n := tree(t, "A as a ; B as b & (C as c | D as c)")
	for _, tell := range []func(api.Node) []string{check.Vars, check.Sure} {
		l, m := tell(n), tell(n)
		_ = append(l, "z")
		clear(l)
		if !slices.Equal(m, list("a", "b", "c")) || !slices.Equal(tell(n), list("a", "b", "c")) {
			t.Errorf("%q, then %q", m, tell(n))
		}
	}
}

// R6: nothing hangs on the order of a map.
func TestAgain(t *testing.T) {
	r := dice()
	for range 200 {
		n := someTree(r, 60, names(40))
		vars, sure, binds := check.Vars(n), check.Sure(n), check.Binds(n)
		for range 20 {
			if !slices.Equal(check.Vars(n), vars) || !slices.Equal(check.Sure(n), sure) || check.Binds(n) != binds {
				t.Fatalf("%s: another answer", shown(n))
			}
		}
	}
}
