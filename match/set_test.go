package match_test

import (
	"iter"
	"math"
	"slices"
	"testing"

	"eyrie/api"
	"eyrie/match"
)

// P10.5

// listed are what an iterator tells.
func listed(seq iter.Seq[api.Partial]) []api.Partial {
	var l []api.Partial
	for p := range seq {
		l = append(l, p)
	}
	return l
}

func wantAll(t *testing.T, seq iter.Seq[api.Partial], want ...api.Partial) {
	t.Helper()
	if got := listed(seq); !slices.EqualFunc(got, want, alike) {
		t.Errorf("%s, not %s", shownAll(got), shownAll(want))
	}
}

// wantSet asks that just these are there, in that order.
func wantSet(t *testing.T, s *match.Set, want ...api.Partial) {
	t.Helper()
	wantAll(t, s.All(), want...)
	if s.Len() != len(want) {
		t.Errorf("Len %d, not %d", s.Len(), len(want))
	}
	for _, p := range want {
		if !s.Has(p) {
			t.Errorf("%s is not there", shown(p))
		}
	}
}

func wantAdd(t *testing.T, s *match.Set, p api.Partial, want bool) {
	t.Helper()
	if s.Add(p) != want {
		t.Errorf("Add of %s: %v", shown(p), !want)
	}
}

func wantHas(t *testing.T, s *match.Set, p api.Partial, want bool) {
	t.Helper()
	if s.Has(p) != want {
		t.Errorf("Has of %s: %v", shown(p), !want)
	}
}

func wantSameSets(t *testing.T, a, b *match.Set, want bool) {
	t.Helper()
	if a.Same(b) != want || b.Same(a) != want {
		t.Errorf("Same: %v and %v", a.Same(b), b.Same(a))
	}
}

// sorted are partial matches in the order of the model.
func sorted(l []api.Partial) []api.Partial {
	var s modelSet
	for _, p := range l {
		s.add(p)
	}
	return s.all()
}

func TestSet(t *testing.T) {
	s := match.NewSet()
	wantSet(t, s)
	a, b := partial(bound("a", ev(0, 1, 5))), partial(bound("a", ev(0, 1, 5)), bound("b", ev(1, 0, 7)))
	wantHas(t, s, b, false)
	wantAdd(t, s, b, true)
	wantSet(t, s, b)
	wantHas(t, s, a, false)
	wantAdd(t, s, b, false)
	wantAdd(t, s, a, true)
	wantSet(t, s, a, b)
	wantAdd(t, s, a, false)
	wantHas(t, s, api.Partial{}, false)
	wantAdd(t, s, api.Partial{}, true)
	wantAdd(t, s, api.Partial{Bounds: []api.Bound{}}, false)
	wantSet(t, s, api.Partial{}, a, b)
	// the same variables, another event at one place
	c := partial(bound("a", ev(0, 1, 5)), bound("b", ev(1, 1, 7)))
	wantHas(t, s, c, false)
	wantAdd(t, s, c, true)
	// another variable
	d := partial(bound("b", ev(0, 1, 5)))
	wantHas(t, s, d, false)
	wantAdd(t, s, d, true)
	e := partial(bound("", ev(0, 1, 5)))
	wantHas(t, s, e, false)
	wantAdd(t, s, e, true)
	wantSet(t, s, api.Partial{}, e, a, b, c, d)
}

// The same variables and IDs, but another event: it is there, as it came first.
func TestSetOfOtherEvents(t *testing.T) {
	for _, p := range ordinary() {
		for i := range p.Bounds {
			s := match.NewSet(p)
			o := deep(p)
			o.Bounds[i].Event.Time = 3
			o.Bounds[i].Event.Type = "Other"
			o.Bounds[i].Event.Attrs = []api.Attr{attr("other", num(1))}
			wantCheck(t, o, api.OK)
			wantHas(t, s, o, true)
			wantAdd(t, s, o, false)
			wantSet(t, s, p)
			wantSet(t, match.NewSet(o, p), o)
			wantSameSets(t, s, match.NewSet(o), true)
		}
	}
}

func TestSetOfRefused(t *testing.T) {
	s := match.NewSet(row(1))
	for _, c := range refused() {
		wantAdd(t, s, c.p, false)
		wantHas(t, s, c.p, modelCompare(c.p, row(1)) == 0)
		wantSet(t, match.NewSet(c.p))
	}
	wantSet(t, s, row(1))
	wantSet(t, match.NewSet(partial(bound("1", ev(0, 0, 0))), row(2), row(13), row(2), row(1)), row(1), row(2))
}

// Has goes by Compare alone: what Add would refuse may be 0 to one that is there.
func TestHasOfRefused(t *testing.T) {
	s := match.NewSet(row(3))
	for i := range 3 {
		for _, e := range []api.Event{{Time: -1}, {Time: math.MinInt64, Type: "no name"}, {Attrs: make([]api.Attr, 100)}, {Type: "A", Attrs: []api.Attr{{}}}} {
			p := row(3)
			e.ID = p.Bounds[i].Event.ID
			p.Bounds[i].Event = e
			wantHas(t, s, p, true)
			wantAdd(t, s, p, false)
		}
	}
	wantSet(t, s, row(3))
}

// What is written much alike is not the same.
func TestHasOfWhatLooksAlike(t *testing.T) {
	id := func(source int, seq int64) api.Event { return ev(source, seq, 0) }
	l := []api.Partial{partial(bound("a", id(1, 11))), partial(bound("a", id(11, 1))), partial(bound("a1", id(1, 1))), partial(bound("a11", id(1, 1))), partial(bound("a", id(1, 1)), bound("a1", id(1, 2))), partial(bound("a", id(1, 1)), bound("a1", id(12, 1)))}
	s := match.NewSet(l...)
	wantSet(t, s, sorted(l)...)
	odd := []api.Partial{}
	for _, v := range []string{"", "a", ":", ".", ";", "0", "1", "-", "\x00", "a:1.1;", "1:a1.1;", "a1.1;1:a", "a\x00"} {
		for _, e := range []api.Event{id(1, 1), id(-1, 1), id(1, -1), id(11, 1), id(1, 11), id(math.MinInt, math.MinInt64), id(math.MaxInt, math.MaxInt64), id(0, 0)} {
			odd = append(odd, partial(bound(v, e)), partial(bound(v, e), bound("", e)), partial(bound("a", id(1, 1)), bound(v, e)), partial(bound(v, e), bound("a", id(1, 1))))
		}
	}
	// where a number ends, and the length of the next variable begins
	l = append(l, partial(bound("a", id(0, 11)), bound("ab", id(0, 555)), bound("bcd", id(7, 1))))
	odd = append(odd, l[len(l)-1], partial(bound("a", id(0, 1)), bound("ab0.5553:bcd", id(7, 1))), partial(bound("a", id(0, 11)), bound("ab", id(0, 55)), bound("bcd", id(7, 1))))
	wantAdd(t, s, l[len(l)-1], true)
	for _, p := range odd {
		want := slices.ContainsFunc(l, func(o api.Partial) bool { return match.Compare(o, p) == 0 })
		wantHas(t, s, p, want)
		if match.Check(p) == api.OK {
			for _, o := range odd {
				wantHas(t, match.NewSet(p), o, match.Compare(o, p) == 0)
			}
		}
	}
}

func TestSetInOrder(t *testing.T) {
	l := ordinary()
	want := sorted(l)
	r := dice()
	for range 50 {
		r.Shuffle(len(l), func(i, j int) { l[i], l[j] = l[j], l[i] })
		wantSet(t, match.NewSet(l...), want...)
	}
}

func TestAllStoppedEarly(t *testing.T) {
	s := match.NewSet(ordinary()...)
	want := sorted(ordinary())
	seq := s.All()
	for n := range want {
		m := 0
		for p := range seq {
			if !alike(p, want[m]) {
				t.Errorf("%d: %s, not %s", m, shown(p), shown(want[m]))
			}
			if m == n {
				break
			}
			m++
		}
		if m != n {
			t.Errorf("stopped behind %d, not %d", m, n)
		}
	}
	wantAll(t, seq, want...)
	wantSet(t, s, want...)
}

// R3: an iterator tells what was there when it was asked for.
func TestAllTellsWhatWasThere(t *testing.T) {
	s := match.NewSet()
	empty := s.All()
	one := func(n int) api.Partial { return partial(bound("a", ev(0, int64(n), 5))) }
	var l []api.Partial
	for n := range 40 {
		seq := s.All()
		wantAdd(t, s, one(40-n), true)
		wantAll(t, seq, l...)
		l = slices.Insert(l, 0, one(40-n))
	}
	seq := s.All()
	m := 0
	for p := range seq {
		wantAdd(t, s, one(100-m), true)
		wantAdd(t, s, partial(bound("A", ev(0, int64(m), 5))), true)
		if !alike(p, l[m]) {
			t.Errorf("%d: %s", m, shown(p))
		}
		m++
	}
	wantAll(t, seq, l...)
	wantAll(t, empty)
	if s.Len() != 120 || len(listed(s.All())) != 120 {
		t.Errorf("%d", s.Len())
	}
}

func TestSameSets(t *testing.T) {
	l := ordinary()
	s := match.NewSet(l...)
	back := slices.Clone(l)
	slices.Reverse(back)
	wantSameSets(t, s, s, true)
	wantSameSets(t, s, match.NewSet(back...), true)
	wantSameSets(t, s, match.NewSet(slices.Concat(l, back, l)...), true)
	wantSameSets(t, match.NewSet(), match.NewSet(row(13)), true)
	wantSameSets(t, s, match.NewSet(), false)
	want := sorted(l)
	for i, p := range want {
		less := match.NewSet(slices.Delete(slices.Clone(want), i, i+1)...)
		wantSameSets(t, s, less, false)
		// as many, but another one
		wantAdd(t, less, partial(bound("other", ev(0, 0, 0))), true)
		wantSameSets(t, s, less, false)
		wantAdd(t, less, p, true)
		wantSameSets(t, s, less, false)
	}
}

// R5
func TestSetNotMade(t *testing.T) {
	var zero match.Set
	for _, s := range []*match.Set{nil, &zero} {
		for _, p := range append(ordinary(), row(13), partial(bound("1", api.Event{}))) {
			wantAdd(t, s, p, false)
			wantHas(t, s, p, false)
		}
		if s.Len() != 0 || s.Clone() != nil || s.All() == nil || len(listed(s.All())) != 0 {
			t.Error("an answer that is not the zero value")
		}
		// it has none
		for _, o := range []*match.Set{nil, &zero, s, {}, match.NewSet(), match.NewSet(row(13))} {
			wantSameSets(t, s, o, true)
		}
		for _, p := range ordinary() {
			wantSameSets(t, s, match.NewSet(p), false)
		}
	}
}

func TestCloneOfSets(t *testing.T) {
	a, b, c := row(1), row(2), row(3)
	s := match.NewSet(b)
	o := s.Clone()
	if o == s {
		t.Fatal("a clone is the set itself")
	}
	wantSet(t, o, b)
	wantSameSets(t, s, o, true)
	wantAdd(t, s, a, true)
	wantSet(t, o, b)
	wantHas(t, o, a, false)
	wantAdd(t, o, c, true)
	wantSet(t, s, a, b)
	wantHas(t, s, c, false)
	wantSameSets(t, s, o, false)
	wantAdd(t, o, a, true)
	wantAdd(t, s, c, true)
	wantSameSets(t, s, o, true)
	// a clone of a clone, of one that has none
	e := match.NewSet().Clone().Clone()
	wantSet(t, e)
	wantAdd(t, e, a, true)
	wantSet(t, e, a)
}

func TestSetsByChance(t *testing.T) {
	r, added, has, same := dice(), counted[bool]{}, counted[bool]{}, counted[bool]{}
	for range 400 {
		few := make([]api.Partial, 1+r.IntN(12))
		for i := range few {
			few[i] = anyhow(r)
		}
		sets, models := []*match.Set{match.NewSet()}, []modelSet{nil}
		for range 60 {
			i, p := r.IntN(len(sets)), pick(r, few...)
			switch r.IntN(8) {
			case 0:
				sets, models = append(sets, sets[i].Clone()), append(models, slices.Clone(models[i]))
			case 1:
				j := r.IntN(len(sets))
				want := len(models[i]) == len(models[j]) && !slices.ContainsFunc(models[i], func(p api.Partial) bool { return !models[j].has(p) })
				same[want]++
				wantSameSets(t, sets[i], sets[j], want)
			case 2:
				has[models[i].has(p)]++
				wantHas(t, sets[i], p, models[i].has(p))
			default:
				want := models[i].add(p)
				added[want]++
				wantAdd(t, sets[i], p, want)
			}
		}
		for i, s := range sets {
			wantSet(t, s, models[i].all()...)
			wantSet(t, match.NewSet(models[i]...), models[i].all()...)
		}
	}
	added.many(t, "Add", 1000, true, false)
	has.many(t, "Has", 500, true, false)
	same.many(t, "Same", 500, true, false)
}
