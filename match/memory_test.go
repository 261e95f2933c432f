package match_test

import (
	"bytes"
	"slices"
	"testing"

	"eyrie/api"
	"eyrie/bits"
	"eyrie/match"
)

// R3: what is handed in is not written to, and not kept; what is answered is nobody's else.

// everything calls all that takes partial matches; it tells what they answer.
func everything(p, o api.Partial) []api.Partial {
	l := []api.Partial{match.Clone(p)}
	match.Check(p)
	match.Begin(p)
	match.End(p)
	match.Within(p, 5)
	match.Compare(p, o)
	match.Same(p, o)
	if m, ok := match.Merge(p, o); ok {
		l = append(l, m)
	}
	sink := bits.NewSink()
	match.Put(sink, p)
	if q, err := match.Take(bits.NewSource(sink.Out())); err == api.OK {
		l = append(l, q)
	}
	b, _ := match.Bytes(p)
	if q, err := match.Parse(b); err == api.OK {
		l = append(l, q)
	}
	for _, b := range p.Bounds {
		if e, ok := match.Get(p, b.Var); ok {
			l = append(l, partial(bound("", e)))
		}
		if q, err := match.Of(b.Var, b.Event); err == api.OK {
			l = append(l, q)
		}
	}
	s := match.NewSet(p, o)
	s.Has(o)
	s.Add(o)
	l = slices.AppendSeq(l, s.All())
	l = slices.AppendSeq(l, s.All())
	return slices.AppendSeq(l, s.Clone().All())
}

func TestArgumentsStay(t *testing.T) {
	r := dice()
	for range 5000 {
		wasP, wasO := anyhow(r), anyhow(r)
		if r.IntN(2) == 0 { // so that they are put together
			for i := range wasO.Bounds {
				wasO.Bounds[i].Event.ID.Source += 8
			}
		}
		p, o := deep(wasP), deep(wasO)
		places := spots{}
		places.take(p)
		places.take(o)
		for _, q := range everything(p, o) {
			if !places.take(q) {
				t.Fatalf("an answer of %s and %s shares memory: %s", shown(p), shown(o), shown(q))
			}
			spoil(q)
		}
		if !alike(p, wasP) || !alike(o, wasO) || !untouched(p) || !untouched(o) {
			t.Fatalf("written to: %s, %s, not %s, %s", shown(p), shown(o), shown(wasP), shown(wasO))
		}
	}
}

// Two bounds that share their attributes do not share them in an answer.
func TestNoTwoListsOfAnAnswerShare(t *testing.T) {
	l := full()
	p := partial(bound("a", ev(0, 0, 0, l...)), bound("b", ev(0, 1, 0, l...)))
	o := partial(bound("c", ev(0, 2, 0, l...)), bound("d", ev(0, 3, 0, l...)))
	for _, q := range everything(p, o) {
		if !(spots{}).take(q) {
			t.Errorf("%s has lists that share memory", shown(q))
		}
	}
}

// What was put in changes no more with what was handed in.
func TestSetKeepsNothingOfItsOwner(t *testing.T) {
	r := dice()
	for range 1000 {
		var l []api.Partial
		for range r.IntN(8) {
			l = append(l, deep(some(r)))
		}
		want := sorted(l)
		s, o := match.NewSet(l...), match.NewSet()
		for _, p := range l {
			o.Add(p)
		}
		for i := range l {
			spoil(l[i])
			l[i] = partial(bound("other", ev(0, 0, 0)))
		}
		wantSet(t, s, want...)
		wantSet(t, o, want...)
	}
}

// Neither a set, nor an iterator, nor another answer changes with what was told.
func TestSetTellsNothingOfItsOwn(t *testing.T) {
	r := dice()
	for range 1000 {
		var l []api.Partial
		for range r.IntN(8) {
			l = append(l, some(r))
		}
		want := sorted(l)
		s := match.NewSet(l...)
		o, seq := s.Clone(), s.All()
		for range 2 {
			i := 0
			for p := range seq {
				if !alike(p, want[i]) {
					t.Fatalf("%s, not %s", shown(p), shown(want[i]))
				}
				spoil(p)
				i++
			}
		}
		told := listed(seq)
		for _, p := range listed(s.All()) {
			spoil(p)
		}
		for _, p := range listed(o.All()) {
			spoil(p)
		}
		if !slices.EqualFunc(told, want, alike) {
			t.Fatalf("%s, not %s", shownAll(told), shownAll(want))
		}
		wantSet(t, s, want...)
		wantSet(t, o, want...)
		wantSet(t, s.Clone(), want...)
	}
}

func TestBytesAreNobodysElse(t *testing.T) {
	p := row(5)
	b, other := byBytes(t, p), byBytes(t, p)
	for i := range b {
		b[i] ^= 0xff
	}
	if !bytes.Equal(other, packed(plain(p))) {
		t.Error("two calls' bytes are shared")
	}
	in := append(slices.Clone(other), "behind"...)
	was := slices.Clone(in)
	x, _ := match.Parse(in[:len(other)])
	y, _ := match.Parse(in[:len(other)])
	if !bytes.Equal(in, was) {
		t.Error("what was handed in was written to")
	}
	clear(in)
	spoil(x)
	if !alike(y, p) {
		t.Errorf("%s, not %s", shown(y), shown(p))
	}
}

// What is taken of a source stays when the source goes on.
func TestTakenStays(t *testing.T) {
	s := bits.NewSink()
	for n := range 5 {
		match.Put(s, row(n))
	}
	r := bits.NewSource(s.Out())
	var l []api.Partial
	for range 5 {
		p, _ := match.Take(r)
		l = append(l, p)
	}
	for n, p := range l {
		if !alike(p, row(n)) {
			t.Errorf("%s, not %s", shown(p), shown(row(n)))
		}
		spoil(p)
	}
}

// R6
func TestAgain(t *testing.T) {
	r := dice()
	for range 500 {
		p, o := anyhow(r), anyhow(r)
		var l []api.Partial
		for range 20 {
			l = append(l, anyhow(r))
		}
		first, order := everything(p, o), listed(match.NewSet(l...).All())
		for range 5 {
			if !slices.EqualFunc(first, everything(p, o), alike) {
				t.Fatalf("%s and %s: other answers", shown(p), shown(o))
			}
			wantSet(t, match.NewSet(l...), order...)
		}
	}
}
