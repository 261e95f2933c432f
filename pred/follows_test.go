package pred_test

import (
	"math/rand/v2"
	"slices"
	"testing"

	"eyrie/api"
	"eyrie/pred"
)

// P9.4: early is right.

// wantEarly asks that All of a list says what it says of both parts.
func wantEarly(t *testing.T, l []api.Cond, vars []string, p api.Partial) bool {
	t.Helper()
	yes, no := pred.Split(l, vars...)
	all := pred.All(l, p)
	if all != (pred.All(yes, p) && pred.All(no, p)) {
		t.Fatalf("%s with %q: all %v, but %v and %v; %+v", shown(l...), vars, all, pred.All(yes, p), pred.All(no, p), p)
	}
	return all
}

func TestEarlyIsRight(t *testing.T) {
	r, all := dice(), counted{}
	for range 20000 {
		p := somePartial(r)
		l := mostly(r, r.IntN(40), func(c api.Cond) bool { return modelCond(c, p) })
		all[wantEarly(t, l, someNames(r), p)]++
	}
	all.many(t, "All", 2000)
}

// The same, each list of three conditions of some, each set of variables, each set of bounds.
func TestEarlyIsRightOfAllLists(t *testing.T) {
	some := conds(t, "a.x < b.x, b.x < a.x, a.x = 1, 1 != a.y, c.x >= b.x, c.x = c.x, 1 = 1, 1 = 2, x = 1")
	names := []string{"a", "b", "c", ""}
	subset := func(bits int) []string {
		var l []string
		for i, s := range names {
			if bits>>i&1 == 1 {
				l = append(l, s)
			}
		}
		return l
	}
	for i := range len(some) * len(some) * len(some) {
		l := []api.Cond{some[i%len(some)], some[i/len(some)%len(some)], some[i/len(some)/len(some)]}
		for vars := range 16 {
			for binds := range 16 {
				var p api.Partial
				for n, s := range subset(binds) {
					p.Bounds = append(p.Bounds, bound(s, event(named("x", num(int64(n))))))
				}
				wantEarly(t, l, subset(vars), p)
			}
		}
	}
}

// Split again with other variables says nothing else either.
func TestEarlyMoreThanOnce(t *testing.T) {
	r := dice()
	for range 5000 {
		p := somePartial(r)
		l := mostly(r, r.IntN(60), func(c api.Cond) bool { return modelCond(c, p) })
		all, rest := true, l
		for range 4 {
			var first []api.Cond
			first, rest = pred.Split(rest, someNames(r)...)
			all = all && pred.All(first, p)
		}
		if want := pred.All(l, p); want != (all && pred.All(rest, p)) {
			t.Fatalf("%s: %v, and another answer in parts; %+v", shown(l...), want, p)
		}
	}
}

// P9.5: once and for all.

// vars are the variables that a partial match binds.
func vars(p api.Partial) []string {
	var l []string
	for _, b := range p.Bounds {
		l = append(l, b.Var)
	}
	return l
}

func TestOnceAndForAll(t *testing.T) {
	r, said := dice(), counted{}
	for range 40000 {
		p, c := somePartial(r), someCond(r)
		if !pred.Ready(c, vars(p)...) {
			continue
		}
		want := pred.Cond(c, p)
		said[want]++
		more := partial(slices.Concat(p.Bounds, somePartial(r).Bounds, p.Bounds)...)
		for _, b := range p.Bounds { // the same variables, with other events
			b.Event = someEvent(r)
			more.Bounds = append(more.Bounds, b)
		}
		for n := len(p.Bounds); n <= len(more.Bounds); n++ {
			wantOnly(t, c, partial(more.Bounds[:n]...), want)
		}
	}
	said.many(t, "Cond", 1000)
}

func wantOnly(t *testing.T, c api.Cond, p api.Partial, want bool) {
	t.Helper()
	l := slices.Repeat([]api.Cond{c}, 30)
	if pred.Cond(c, p) != want || pred.All(l, p) != want || pred.All(l[:1], p) != want {
		t.Fatalf("%s: no more %v; %+v", shown(c), want, p)
	}
}

func TestOnceAndForAllOfEachRelation(t *testing.T) {
	for rel := api.RelEq; rel <= api.RelGe; rel++ {
		for _, v := range values() {
			p := partial(bound("a", with(v)), bound("b", with(num(1))))
			for _, c := range []api.Cond{cond(attr("a", "x"), rel, attr("b", "x")), cond(attr("b", "x"), rel, attr("a", "x")), cond(attr("a", "x"), rel, constant(num(1))), cond(attr("b", "y"), rel, attr("a", "y"))} {
				want := pred.Cond(c, p)
				for _, w := range values() {
					more := append(slices.Clone(p.Bounds), bound("a", with(w)), bound("b", event(named("x", w), named("y", w))), bound("c", with(w)))
					wantOnly(t, c, partial(more...), want)
				}
			}
		}
	}
}

// R3: what is handed in is not written to, what is answered is nobody's else.

// roomy is a list with room behind it, in which something stands.
func roomy[T any](l []T, behind T) []T { return append(slices.Clone(l), behind)[:len(l)] }

// behind is what stands behind a roomy list.
func behind[T any](l []T) T { return l[:len(l)+1][len(l)] }

var (
	noCond  = api.Cond{Rel: 77}
	noAttr  = api.Attr{Name: "behind"}
	noBound = api.Bound{Var: "behind"}
)

func roomyEvent(e api.Event) api.Event {
	e.Attrs = roomy(e.Attrs, noAttr)
	return e
}

func roomyPartial(p api.Partial) api.Partial {
	p.Bounds = roomy(p.Bounds, noBound)
	for i, b := range p.Bounds {
		p.Bounds[i].Event = roomyEvent(b.Event)
	}
	return p
}

func sameEvent(a, b api.Event) bool {
	return a.ID == b.ID && a.Time == b.Time && a.Type == b.Type && slices.Equal(a.Attrs, b.Attrs)
}

func samePartial(a, b api.Partial) bool {
	return slices.EqualFunc(a.Bounds, b.Bounds, func(a, b api.Bound) bool { return a.Var == b.Var && sameEvent(a.Event, b.Event) })
}

// untouched tells whether behind the lists of a partial match stands what stood there.
func untouched(p api.Partial) bool {
	for _, b := range p.Bounds {
		if behind(b.Event.Attrs) != noAttr {
			return false
		}
	}
	return behind(p.Bounds).Var == noBound.Var
}

func TestArgumentsStay(t *testing.T) {
	r := dice()
	for range 5000 {
		oldList, oldNames, oldEvent, oldPartial := someConds(r, r.IntN(40)), someNames(r), someEvent(r), somePartial(r)
		l, names, e, p := roomy(oldList, noCond), roomy(oldNames, "behind"), roomyEvent(oldEvent), roomyPartial(oldPartial)
		kids := []api.Node{{Kind: 9}}
		n := api.Node{Kind: api.NdTerm, Type: e.Type, Tests: l, Kids: kids}
		pred.Term(n, e)
		pred.All(l, p)
		pred.Split(l, names...)
		for _, c := range l {
			pred.Test(c, e)
			pred.Value(c.Left, p)
			pred.Names(c)
			pred.Ready(c, names...)
			pred.Cond(c, p)
		}
		if !slices.Equal(l, oldList) || !slices.Equal(names, oldNames) || !sameEvent(e, oldEvent) || !samePartial(p, oldPartial) || kids[0].Kind != 9 {
			t.Fatalf("written to: %s, %q, %+v, %+v", shown(l...), names, e, p)
		}
		if behind(l) != noCond || behind(names) != "behind" || behind(e.Attrs) != noAttr || !untouched(p) {
			t.Fatalf("written behind: %s, %q, %+v, %+v", shown(l...), names, e, p)
		}
	}
}

// spots are the places in memory of lists, behind their ends, too.
type spots[T any] map[*T]bool

// take tells whether a list has no place that was taken; and takes them.
func (s spots[T]) take(l []T) bool {
	free := true
	l = l[:cap(l)]
	for i := range l {
		free = free && !s[&l[i]]
		s[&l[i]] = true
	}
	return free
}

func TestAnswersAreNobodysElse(t *testing.T) {
	r := dice()
	for range 5000 {
		l, names := roomy(someConds(r, r.IntN(40)), noCond), roomy(someNames(r), "behind")
		places, words := spots[api.Cond]{}, spots[string]{}
		places.take(l)
		words.take(names)
		for range 2 {
			yes, no := pred.Split(l, names...)
			if !places.take(yes) || !places.take(no) {
				t.Fatalf("Split of %s with %q shares memory", shown(l...), names)
			}
			for _, c := range l {
				if !words.take(pred.Names(c)) {
					t.Fatalf("Names of %s share memory", shown(c))
				}
			}
		}
	}
}

// spoil writes over all of a list, and behind it.
func spoil[T any](l []T, with T) {
	for i := range l {
		l[i] = with
	}
	_ = append(l, with, with)
}

// A change of one part changes neither the other one nor what was handed in, nor does a change of that one change them.
func TestChangesStayWhereTheyAre(t *testing.T) {
	r := dice()
	for range 5000 {
		l, names := someConds(r, r.IntN(40)), someNames(r)
		was := slices.Clone(l)
		first, second := modelSplit(l, names)
		yes, no := pred.Split(l, names...)
		spoil(yes, noCond)
		if !slices.Equal(no, second) || !slices.Equal(l, was) {
			t.Fatalf("%s with %q: a change of the first part is seen", shown(was...), names)
		}
		yes, no = pred.Split(l, names...)
		spoil(no, noCond)
		if !slices.Equal(yes, first) || !slices.Equal(l, was) {
			t.Fatalf("%s with %q: a change of the second part is seen", shown(was...), names)
		}
		yes, no = pred.Split(l, names...)
		spoil(l, noCond)
		spoil(names, "z")
		if !slices.Equal(yes, first) || !slices.Equal(no, second) {
			t.Fatalf("%s: a change of what was handed in is seen", shown(was...))
		}
	}
}

func TestChangesOfNamesStayWhereTheyAre(t *testing.T) {
	c := one(t, "b.x = a.x")
	l := pred.Names(c)
	spoil(l, "z")
	wantNames(t, c, "a", "b")
	wantReady(t, c, true, "a", "b")
}

// R4: empty and nil lists are the same.
func TestEmptyLists(t *testing.T) {
	for _, attrs := range [][]api.Attr{nil, {}} {
		e := event(attrs...)
		for _, tests := range [][]api.Cond{nil, {}} {
			for _, kids := range [][]api.Node{nil, {}} {
				wantTerm(t, api.Node{Kind: api.NdTerm, Type: "T", Tests: tests, Kids: kids}, e, true)
			}
			for _, bounds := range [][]api.Bound{nil, {}, {bound("a", e)}} {
				wantAll(t, tests, api.Partial{Bounds: bounds}, true)
			}
		}
		wantTest(t, one(t, "x = 1"), e, false)
		wantCond(t, one(t, "a.x = 1"), partial(bound("a", e)), false)
		wantValue(t, attr("a", "x"), partial(bound("a", e)), api.Value{}, true)
	}
	for _, bounds := range [][]api.Bound{nil, {}} {
		wantCond(t, one(t, "a.x = 1"), api.Partial{Bounds: bounds}, true)
		wantCond(t, one(t, "1 = 2"), api.Partial{Bounds: bounds}, false)
		wantValue(t, attr("a", "x"), api.Partial{Bounds: bounds}, api.Value{}, false)
	}
	for _, names := range [][]string{nil, {}} {
		wantReady(t, one(t, "a.x = 1"), false, names...)
		wantReady(t, one(t, "1 = 2"), true, names...)
	}
}

// R6
func TestAgain(t *testing.T) {
	r := rand.New(rand.NewPCG(92, 93))
	for range 1000 {
		l, names, e, p := someConds(r, r.IntN(40)), someNames(r), someEvent(r), somePartial(r)
		n := api.Node{Kind: api.NdTerm, Type: e.Type, Tests: l}
		term, all := pred.Term(n, e), pred.All(l, p)
		yes, no := pred.Split(l, names...)
		for range 5 {
			wantTerm(t, n, e, term)
			wantAll(t, l, p, all)
			wantSplit(t, l, names, yes, no)
		}
	}
}
