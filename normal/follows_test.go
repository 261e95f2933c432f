package normal_test

import (
	"math/rand/v2"
	"slices"
	"testing"

	"eyrie/api"
	"eyrie/check"
	"eyrie/normal"
)

// P8.5

// wantNormal asks for what is said of all normal forms of trees that may be.
func wantNormal(t *testing.T, n api.Node) {
	t.Helper()
	for at, m := range below(n) {
		if m.Kind == api.NdOr && at > 0 {
			t.Errorf("%s: an NdOr below the top", shown(n))
		}
		for i, k := range m.Kids {
			if k.Kind == m.Kind {
				t.Errorf("%s: a kid of its own Kind", shown(n))
			}
			if i == 0 {
				continue
			}
			order := modelCompare(m.Kids[i-1], k)
			if m.Kind == api.NdAnd && order > 0 || m.Kind == api.NdOr && order >= 0 {
				t.Errorf("%s: kids that do not rise", shown(n))
			}
		}
	}
}

func TestFormsAreNormal(t *testing.T) {
	r := dice()
	ors := 0
	for i := range 4000 {
		n := taken(r).Root
		if i%2 == 0 {
			n = someTree(r, 1+r.IntN(30), names(1+r.IntN(4)))
		}
		form, err := normal.Tree(n)
		if err != api.OK {
			continue
		}
		wantNormal(t, form)
		if form.Kind == api.NdOr {
			ors++
		}
	}
	if ors < 1000 {
		t.Errorf("%d with an NdOr", ors)
	}
}

// The form of a form is it again, and Is says so: of what no Shape takes, too.
func TestFormsAreTheirOwn(t *testing.T) {
	eachTree(5000, func(_ *rand.Rand, n api.Node) {
		form, err := normal.Tree(n)
		if err != api.OK {
			return
		}
		again, err := normal.Tree(form)
		if err != api.OK || !alike(again, form) {
			t.Errorf("%s: its form's form is %s, error %d", shown(form), shown(again), err)
		}
		if !normal.Is(form) || normal.Is(n) != alike(n, form) {
			t.Errorf("%s, of %s: Is says %v, and of the tree itself %v", shown(form), shown(n), normal.Is(form), normal.Is(n))
		}
		if form.Kind != api.NdOr {
			wantFlat(t, form, form)
		}
		wantSort(t, form, form)
	})
}

func TestFormsOfPatternsAreTheirOwn(t *testing.T) {
	r := dice()
	for range 1000 {
		p := taken(r)
		form, err := normal.Pattern(p)
		if err != api.OK {
			t.Fatalf("%s: error %d", shown(p.Root), err)
		}
		wantNormal(t, form.Root)
		// a form may have more terms than a pattern may have
		if check.Pattern(form) != api.OK {
			continue
		}
		if again, err := normal.Pattern(form); err != api.OK || !samePattern(again, form) {
			t.Fatalf("%s: its form's form is %s, error %d", shown(form.Root), shown(again.Root), err)
		}
	}
}

// P8.6

// turn is the same tree, its NdAnds' and NdOrs' kids in some other order, and some of them put within another node of their Kind.
func turn(r *rand.Rand, n api.Node) api.Node {
	var kids []api.Node
	for _, k := range n.Kids {
		kids = append(kids, turn(r, k))
	}
	if n.Kind == api.NdAnd || n.Kind == api.NdOr {
		r.Shuffle(len(kids), func(i, j int) { kids[i], kids[j] = kids[j], kids[i] })
	}
	if draws(n.Kind) && len(kids) > 0 && r.IntN(2) == 0 {
		from := r.IntN(len(kids))
		to := from + 1 + r.IntN(len(kids)-from)
		inner := node(n.Kind, slices.Clone(kids[from:to])...)
		kids = slices.Replace(kids, from, to, inner)
	}
	n.Kids = kids
	return n
}

func TestOrderSaysNothing(t *testing.T) {
	others := 0
	eachTree(4000, func(r *rand.Rand, n api.Node) {
		want, err := normal.Tree(n)
		for range 4 {
			m := turn(r, n)
			got, e := normal.Tree(m)
			if e != err || !alike(got, want) {
				t.Fatalf("%s: %s, error %d; but %s: %s, error %d", shown(n), shown(want), err, shown(m), shown(got), e)
			}
			if !alike(m, n) {
				others++
			}
		}
	})
	if others < 6000 {
		t.Errorf("%d turned", others)
	}
}

// The order of an NdSeq's kids says something.
func TestOrderOfSeqStays(t *testing.T) {
	for _, x := range [][2]string{
		{"A as a ; B as b", "B as b ; A as a"},
		{"A as a ; B as b ; C as c", "A as a ; C as c ; B as b"},
		{"A as a & (B as b ; C as c)", "A as a & (C as c ; B as b)"},
		{"A as a & B as b ; C as c", "A as a & (B as b ; C as c)"},
		{"A as a | B as b & C as c", "(A as a | B as b) & C as c"},
	} {
		a, _ := normal.Tree(tree(t, x[0]))
		b, _ := normal.Tree(tree(t, x[1]))
		if alike(a, b) {
			t.Errorf("%s and %s: both %s", x[0], x[1], shown(a))
		}
	}
}

// R3: what is handed in is not written to, what is answered is nobody's else.

// roomy is a tree whose lists have room behind them, in which something stands.
func roomy(n api.Node) api.Node {
	var kids []api.Node
	for _, k := range n.Kids {
		kids = append(kids, roomy(k))
	}
	kids = append(kids, api.Node{Var: "behind"})
	n.Kids = kids[:len(kids)-1]
	tests := append(slices.Clone(n.Tests), api.Cond{Rel: 77})
	n.Tests = tests[:len(tests)-1]
	return n
}

// behind tells whether what stands behind all lists of a roomy tree still stands there.
func behind(n api.Node) bool {
	for _, k := range n.Kids {
		if !behind(k) {
			return false
		}
	}
	kids, tests := n.Kids[:len(n.Kids)+1], n.Tests[:len(n.Tests)+1]
	return kids[len(n.Kids)].Var == "behind" && tests[len(n.Tests)].Rel == 77
}

func TestArgumentsStay(t *testing.T) {
	r := dice()
	stays := func(n api.Node) {
		n = roomy(n)
		was := cloned(n)
		p := pattern(n, cond(attr("v000001", "x"), 1, num(1)))
		where := append(slices.Clone(p.Where), api.Cond{Rel: 77})
		p.Where = where[:len(where)-1]
		normal.Flat(n)
		normal.Alts(n)
		normal.Sort(n)
		normal.Tree(n)
		normal.Pattern(p)
		normal.Is(n)
		normal.Compare(n, n)
		if !alike(n, was) || !behind(n) || where[len(where)-1].Rel != 77 {
			t.Fatalf("%s was written to: %s", shown(was), shown(n))
		}
	}
	for range 500 {
		stays(taken(r).Root)
	}
	eachTree(1000, func(_ *rand.Rand, n api.Node) { stays(n) })
}

// spots are the places in memory that trees hold, behind their lists' ends, too.
type spots struct {
	nodes map[*api.Node]bool
	conds map[*api.Cond]bool
}

func newSpots() spots { return spots{map[*api.Node]bool{}, map[*api.Cond]bool{}} }

// take tells whether a tree holds no place that was taken, each one but once; and takes them.
func (s spots) take(n api.Node) bool {
	free := s.conditions(n.Tests)
	room := n.Kids[:cap(n.Kids)]
	for i := range room {
		free = free && !s.nodes[&room[i]]
		s.nodes[&room[i]] = true
	}
	for i, k := range room {
		if i < len(n.Kids) || len(k.Kids) > 0 {
			free = s.take(k) && free
		}
	}
	return free
}

func (s spots) conditions(l []api.Cond) bool {
	free := true
	l = l[:cap(l)]
	for i := range l {
		free = free && !s.conds[&l[i]]
		s.conds[&l[i]] = true
	}
	return free
}

func TestAnswersAreNobodysElse(t *testing.T) {
	asked := 0
	eachTree(3000, func(_ *rand.Rand, n api.Node) {
		n = roomy(n)
		s := newSpots()
		s.take(n)
		var l []api.Node
		for range 2 {
			alts, _ := normal.Alts(n)
			l = append(l, alts...)
			form, _ := normal.Tree(n)
			l = append(l, normal.Flat(n), normal.Sort(n), form)
		}
		for _, m := range l {
			asked++
			if !s.take(m) {
				t.Fatalf("%s: %s shares memory", shown(n), shown(m))
			}
		}
	})
	if asked < 20000 {
		t.Errorf("%d asked", asked)
	}
}

func TestAnsweredPatternsAreNobodysElse(t *testing.T) {
	r := dice()
	for range 1000 {
		p := taken(r)
		p.Root, p.Where = roomy(p.Root), append(p.Where, api.Cond{})[:len(p.Where)]
		s := newSpots()
		s.take(p.Root)
		s.conditions(p.Where)
		for range 2 {
			form, err := normal.Pattern(p)
			if err != api.OK || !s.take(form.Root) || !s.conditions(form.Where) {
				t.Fatalf("%s: shared memory, error %d", shown(p.Root), err)
			}
		}
	}
}

// spoil writes over all that a tree holds.
func spoil(n *api.Node) {
	for i := range n.Kids {
		spoil(&n.Kids[i])
	}
	for i := range n.Tests {
		n.Tests[i] = api.Cond{Rel: 99}
	}
	*n = api.Node{Kind: 99, Tests: append(n.Tests, api.Cond{Rel: 98}), Kids: append(n.Kids, api.Node{Kind: 98})}
}

// A change at every level of what was answered changes nothing else, nor does one of what was handed in.
func TestChangesStayWhereTheyAre(t *testing.T) {
	eachTree(1500, func(r *rand.Rand, n api.Node) {
		was := cloned(n)
		alts, err := normal.Alts(n)
		if err != api.OK {
			return
		}
		form, _ := normal.Tree(n)
		all := append(alts, normal.Flat(n), normal.Sort(n), form, n)
		want := cloned(or(all...)).Kids
		for _, i := range r.Perm(len(all)) {
			spoil(&all[i])
			want[i] = all[i]
			for j := range all {
				if !alike(all[j], want[j]) {
					t.Fatalf("%s: a change of answer %d changes answer %d", shown(was), i, j)
				}
			}
		}
	})
}

// R4: empty and nil lists are the same, and what is answered has nil ones.

// hollow is the same tree with lists that are not nil.
func hollow(n api.Node) api.Node {
	n.Tests, n.Kids = append([]api.Cond{}, n.Tests...), append([]api.Node{}, n.Kids...)
	for i := range n.Kids {
		n.Kids[i] = hollow(n.Kids[i])
	}
	return n
}

func TestEmptyLists(t *testing.T) {
	eachTree(1000, func(_ *rand.Rand, n api.Node) {
		m := hollow(n)
		wantFlat(t, m, normal.Flat(n))
		wantSort(t, m, normal.Sort(n))
		if normal.Is(m) != normal.Is(n) || normal.Compare(m, n) != 0 || normal.Compare(n, m) != 0 {
			t.Fatalf("%s: another answer", shown(n))
		}
		alts, err := normal.Alts(m)
		if err != api.OK {
			return
		}
		form, _ := normal.Tree(m)
		for _, a := range append(alts, normal.Flat(m), normal.Sort(m), form) {
			for _, k := range below(a) {
				if len(k.Tests) == 0 && k.Tests != nil || len(k.Kids) == 0 && k.Kids != nil {
					t.Fatalf("%s: empty lists in %#v", shown(n), a)
				}
			}
		}
	})
}

// R6
func TestAgain(t *testing.T) {
	eachTree(500, func(_ *rand.Rand, n api.Node) {
		form, err := normal.Tree(n)
		alts, _ := normal.Alts(n)
		for range 5 {
			if again, e := normal.Tree(n); e != err || !alike(again, form) {
				t.Fatalf("%s: another form", shown(n))
			}
			again, _ := normal.Alts(n)
			wantTrees(t, "again", again, alts)
		}
	})
}
