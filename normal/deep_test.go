package normal_test

import (
	"slices"
	"testing"
	"time"

	"eyrie/api"
	"eyrie/normal"
)

// THE BOUND: very deep and very wide trees, in near-linear time: were it the square of it, each of them would take minutes.

// soon fails, if something takes far longer than near-linear time.
func soon(t *testing.T, what string, f func()) {
	t.Helper()
	begin := time.Now()
	f()
	if d := time.Since(begin); d > 20*time.Second {
		t.Errorf("%s: %v", what, d)
	}
}

// wantGreat asks for all that is told of a great tree.
func wantGreat(t *testing.T, what string, n, flat, sorted, form api.Node) {
	t.Helper()
	soon(t, what, func() {
		wantTree(t, what+": Flat", normal.Flat(n), flat)
		wantTree(t, what+": Sort", normal.Sort(n), sorted)
		got, err := normal.Tree(n)
		if err != api.OK {
			t.Errorf("%s: Tree answers %d", what, err)
		}
		wantTree(t, what+": Tree", got, form)
		if !normal.Is(form) || normal.Is(n) != alike(n, form) {
			t.Errorf("%s: Is", what)
		}
		m := cloned(n)
		if got := normal.Compare(n, m); got != 0 {
			t.Errorf("%s and itself: %d", what, got)
		}
		last := &m
		for len(last.Kids) > 0 {
			last = &last.Kids[len(last.Kids)-1]
		}
		last.Tests = append(last.Tests, test(1))
		if got, turned := normal.Compare(n, m), normal.Compare(m, n); got != -1 || turned != 1 {
			t.Errorf("%s and one with a condition more at its last node: %d, %d", what, got, turned)
		}
	})
}

// chain is a tree of some levels, with a term of its own at each; the level below stands first or last, as its place says.
func chain(l []api.Node, last bool, kinds ...int) api.Node {
	low := l[len(l)-1]
	for i := len(l) - 2; i >= 0; i-- {
		kids := []api.Node{low, l[i]}
		if last {
			kids = []api.Node{l[i], low}
		}
		low = api.Node{Kind: kinds[i%len(kinds)], Kids: kids}
	}
	return low
}

const levels = 1 << 16

// Nodes of one Kind, one below the other: all is drawn up to one.
func TestDeepOfOneKind(t *testing.T) {
	l := terms(levels)
	n := chain(l, true, api.NdSeq)
	wantGreat(t, "a deep seq", n, seq(l...), n, seq(l...))
	n = chain(l, false, api.NdSeq)
	wantGreat(t, "a deep seq, turned about", n, seq(turned(l)...), n, seq(turned(l)...))
	n = chain(l, true, api.NdAnd)
	wantGreat(t, "a deep and", n, and(l...), n, and(l...))
	n = chain(turned(l), false, api.NdAnd)
	wantGreat(t, "a deep and, turned about", n, and(l...), ordered(n), and(l...))
	soon(t, "a deep or", func() {
		n := chain(l, true, api.NdOr)
		wantTree(t, "Flat", normal.Flat(n), or(l...))
		wantTree(t, "Sort", normal.Sort(chain(l, false, api.NdOr)), n)
		wantTooMany(t, n)
	})
	// ors of one kid, and of the same one alone
	n = of("a")
	for range levels {
		n = or(n)
	}
	wantGreat(t, "ors of one kid", n, or(of("a")), n, of("a"))
	n = seq()
	for range levels {
		n = seq(n, seq())
	}
	wantGreat(t, "seqs without terms", n, seq(), n, seq())
}

// Nodes of two Kinds by turns: nothing is drawn up.
func TestDeepOfTwoKinds(t *testing.T) {
	l := terms(levels)
	n := chain(l, true, api.NdSeq, api.NdAnd)
	wantGreat(t, "seqs and ands", n, n, n, n)
	m := chain(l, false, api.NdSeq, api.NdAnd)
	wantGreat(t, "seqs and ands, turned about", m, m, ordered(m), ordered(m))
	n = chain(l, true, api.NdOr, api.NdAnd)
	soon(t, "ors and ands", func() {
		wantTree(t, "Flat", normal.Flat(n), n)
		wantTree(t, "Sort", normal.Sort(chain(l, false, api.NdOr, api.NdAnd)), ordered(n))
		wantTooMany(t, n)
	})
}

// ordered is a chain whose NdAnds and NdOrs have the term ahead of the tree below it, and of two terms the lesser one.
func ordered(n api.Node) api.Node {
	n = cloned(n)
	for at := &n; len(at.Kids) > 0; {
		first, second := at.Kids[0], at.Kids[1]
		turn := first.Kind > second.Kind || first.Kind == second.Kind && first.Var > second.Var
		if at.Kind != api.NdSeq && turn {
			at.Kids[0], at.Kids[1] = second, first
		}
		low := 0
		if len(at.Kids[1].Kids) > 0 {
			low = 1
		}
		at = &at.Kids[low]
	}
	return n
}

// Few choices, very far down, and at each of many levels a node of one kid.
func TestDeepChoices(t *testing.T) {
	l := terms(levels / 4)
	low := or(of("y"), of("x"))
	n, x, y := low, of("x"), of("y")
	for i, k := range l {
		kind := []int{api.NdSeq, api.NdAnd}[i%2]
		n, x, y = node(kind, k, or(n)), node(kind, k, x), node(kind, k, y)
	}
	soon(t, "a choice far down", func() {
		wantForm(t, n, or(x, y))
		wantAlts(t, n, y, x)
	})
	// a choice at every 2,000th level: 64 in all
	n = of("low")
	for i := range 6 * 2000 {
		n = seq(n)
		if i%2000 == 0 {
			n = and(or(of("x"), of("y")), n)
		}
	}
	soon(t, "choices on the way", func() {
		l, err := normal.Alts(n)
		if err != api.OK || len(l) != 64 {
			t.Errorf("error %d, %d alternatives", err, len(l))
		}
		form, err := normal.Tree(n)
		if err != api.OK || len(form.Kids) != 64 || !normal.Is(form) || normal.Is(n) {
			t.Errorf("error %d, %d kids", err, len(form.Kids))
		}
	})
}

func TestWideTrees(t *testing.T) {
	const many = 1 << 17
	l := terms(many)
	back := turned(l)
	wantGreat(t, "a wide seq", seq(back...), seq(back...), seq(back...), seq(back...))
	wantGreat(t, "a wide and", and(l...), and(l...), and(l...), and(l...))
	wantGreat(t, "a wide and, turned about", and(back...), and(back...), and(l...), and(l...))
	mixed := slices.Clone(l)
	dice().Shuffle(many, func(i, j int) { mixed[i], mixed[j] = mixed[j], mixed[i] })
	wantGreat(t, "a wide and, mixed", and(mixed...), and(mixed...), and(l...), and(l...))
	soon(t, "a wide or", func() {
		wantTree(t, "Flat", normal.Flat(or(or(mixed[:many/2]...), or(mixed[many/2:]...))), or(mixed...))
		wantTree(t, "Sort", normal.Sort(or(slices.Concat(mixed, back)...)), or(l...))
		wantTooMany(t, or(l...))
	})
	same := slices.Repeat([]api.Node{of("a")}, many)
	wantGreat(t, "a wide and of the same", and(same...), and(same...), and(same...), and(same...))
	soon(t, "a wide or of the same", func() { wantSort(t, or(same...), or(of("a"))) })
	// ors of one kid each, and some that are a choice between far away kids
	for i := range mixed {
		mixed[i] = or(l[many-1-i])
	}
	wantGreat(t, "a wide and of ors", and(mixed...), and(mixed...), and(turned(mixed)...), and(l...))
}

func TestWideChoices(t *testing.T) {
	const many = 1 << 15
	l := terms(many)
	kids := slices.Clone(l)
	for i := range 6 {
		at := i * (many / 6)
		kids[at] = or(l[at], of("x"))
	}
	soon(t, "choices far apart", func() {
		alts, err := normal.Alts(seq(kids...))
		if err != api.OK || len(alts) != 64 {
			t.Fatalf("error %d, %d alternatives", err, len(alts))
		}
		for i, alt := range alts {
			for k := range 6 {
				at := k * (many / 6)
				want := l[at]
				if i>>(5-k)&1 == 1 {
					want = of("x")
				}
				if !alike(alt.Kids[at], want) {
					t.Fatalf("alternative %d: kid %d is %s", i, at, shown(alt.Kids[at]))
				}
				alt.Kids[at] = l[at]
			}
			wantTree(t, "an alternative", alt, seq(l...))
		}
		form, err := normal.Tree(and(kids...))
		if err != api.OK || len(form.Kids) != 64 {
			t.Fatalf("error %d, %d kids", err, len(form.Kids))
		}
	})
	// many conditions in each of many terms
	tests := slices.Repeat([]api.Cond{test(1)}, 20)
	for i := range l {
		l[i] = term("A", "a", slices.Concat(tests, []api.Cond{test(int64(many - i))})...)
	}
	wantGreat(t, "many tests", and(l...), and(l...), and(turned(l)...), and(turned(l)...))
}

// halves is a tree each node of which has half of the terms at either side.
func halves(l []api.Node, kinds ...int) api.Node {
	if len(l) == 1 {
		return l[0]
	}
	next := append(kinds[1:len(kinds):len(kinds)], kinds[0])
	return api.Node{Kind: kinds[0], Kids: []api.Node{halves(l[:len(l)/2], next...), halves(l[len(l)/2:], next...)}}
}

func TestFullTrees(t *testing.T) {
	const many = 1 << 16
	l := terms(many)
	wantGreat(t, "a full seq", halves(l, api.NdSeq), seq(l...), halves(l, api.NdSeq), seq(l...))
	wantGreat(t, "a full and", halves(turned(l), api.NdAnd), and(turned(l)...), halves(l, api.NdAnd), and(l...))
	n := halves(l, api.NdAnd, api.NdSeq)
	wantGreat(t, "a full one of ands and seqs", n, n, n, n)
	// the same at both sides, all the way up
	same := slices.Repeat([]api.Node{of("a")}, many)
	n = halves(same, api.NdSeq, api.NdAnd)
	wantGreat(t, "a full one of the same", n, n, n, n)
	soon(t, "a full or of the same", func() {
		want := of("a")
		for range 16 {
			want = or(want)
		}
		wantSort(t, halves(same, api.NdOr), want)
	})
}

// Kids that hold themselves have no end, and no promise, but each call has one.
func TestKidsThatHoldThemselves(t *testing.T) {
	for _, kind := range []int{api.NdAnd, api.NdOr, api.NdTerm} {
		first, last, all, alone := terms(2), terms(2), terms(2), terms(1)
		for _, at := range []*api.Node{&first[0], &last[1], &all[0], &all[1], &alone[0]} {
			at.Kind = kind
		}
		first[0].Kids, last[1].Kids, all[0].Kids, all[1].Kids, alone[0].Kids = first, last, all, all, alone
		l := []api.Node{first[0], last[1], all[0], alone[0]}
		for i, n := range l {
			if alts, err := normal.Alts(n); err != api.ErrAlts || alts != nil {
				t.Errorf("it has alternatives: error %d", err)
			}
			if _, err := normal.Tree(n); err != api.ErrAlts || normal.Is(n) {
				t.Errorf("it has a form: error %d", err)
			}
			if _, err := normal.Pattern(pattern(n)); err == api.OK {
				t.Errorf("it may be")
			}
			wantTree(t, "Flat", normal.Flat(n), api.Node{})
			wantTree(t, "Sort", normal.Sort(n), api.Node{})
			for j, m := range l {
				got, turned := normal.Compare(n, m), normal.Compare(m, n)
				if got != -turned || i == j && got != 0 || got < -1 || got > 1 {
					t.Errorf("Compare of them: %d, and turned about %d", got, turned)
				}
			}
		}
		first[0].Kids, last[1].Kids, all[0].Kids, all[1].Kids, alone[0].Kids = nil, nil, nil, nil, nil
	}
}
