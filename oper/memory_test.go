package oper_test

import (
	"bytes"
	"slices"
	"testing"

	"eyrie/api"
	"eyrie/oper"
)

// R3: what is handed in is not written to, and not kept; what is answered is nobody's else.

// deep is a partial match in memory of its own, with room behind each list in which something stands.
func deep(p api.Partial) api.Partial {
	l := append(slices.Clone(p.Bounds), bound("behind", api.Event{}))[:len(p.Bounds)]
	for i, b := range l {
		l[i].Event.Attrs = append(slices.Clone(b.Event.Attrs), attr("behind", num(1)))[:len(b.Event.Attrs)]
	}
	return api.Partial{Bounds: l}
}

// untouched tells whether what stands behind the lists of a deep one is what stood there.
func untouched(p api.Partial) bool {
	for _, b := range p.Bounds {
		l := b.Event.Attrs
		if l[:len(l)+1][len(l)] != attr("behind", num(1)) {
			return false
		}
	}
	l := p.Bounds
	return l[:len(l)+1][len(l)].Var == "behind"
}

// spoil writes over all of a partial match, and behind its lists.
func spoil(p api.Partial) {
	for i, b := range p.Bounds {
		for k := range b.Event.Attrs {
			b.Event.Attrs[k] = attr("spoilt", num(9))
		}
		_ = append(b.Event.Attrs, attr("spoilt", num(9)), attr("spoilt", num(9)))
		p.Bounds[i] = bound("spoilt", api.Event{})
	}
	_ = append(p.Bounds, bound("spoilt", api.Event{}), bound("spoilt", api.Event{}))
}

// spots are the places in memory of lists, behind their ends, too.
type spots map[any]bool

// take tells whether no list of a partial match has a place that was taken; and takes them.
func (s spots) take(p api.Partial) bool {
	free := true
	l := p.Bounds[:cap(p.Bounds)]
	for i := range l {
		free = free && !s[&l[i]]
		s[&l[i]] = true
	}
	for _, b := range p.Bounds {
		l := b.Event.Attrs[:cap(b.Event.Attrs)]
		for i := range l {
			free = free && !s[&l[i]]
			s[&l[i]] = true
		}
	}
	return free
}

func TestPartialsAreNobodysElse(t *testing.T) {
	r := dice()
	for round := range 1500 {
		w := world{r, t, round%2 == 0, 0}
		o := w.op(1 + round%5)
		x, m, places := made(t, o), newModel(o), spots{}
		other := x.Clone()
		for range 8 * o.Inputs {
			input, is := w.IntN(o.Inputs), w.fed(o, 0)
			p := deep(is)
			places.take(p)
			want, _ := m.feed(input, is)
			told, _ := x.Feed(input, p)
			if !alike(p, is) || !untouched(p) {
				t.Fatalf("%s was written to: %s", shown(is), shown(p))
			}
			spoil(p)
			all := x.All(input)
			other = x.Clone()
			again := restored(t, o, snapshot(t, x))
			if !slices.EqualFunc(told, want, alike) {
				t.Fatalf("%s, not %s", shownAll(told), shownAll(want))
			}
			for _, l := range [][]api.Partial{told, slices.Collect(all), slices.Collect(all), slices.Collect(other.All(input)), slices.Collect(again.All(input))} {
				for _, p := range l {
					if !places.take(p) {
						t.Fatalf("%s shares memory", shown(p))
					}
					spoil(p)
				}
			}
			_ = append(told, partial())
			wantModel(t, x, m)
			wantModel(t, other, m)
			wantModel(t, again, m)
		}
	}
}

// Two bounds that share their attributes do not share them in an answer.
func TestNoTwoListsOfAnAnswerShare(t *testing.T) {
	l := []api.Attr{attr("x", num(1)), attr("y", num(2))}
	p := partial(bound("a", ev(0, 0, 1, l...)), bound("b", ev(0, 1, 1, l...)))
	o := partial(bound("c", ev(0, 2, 2, l...)), bound("d", ev(0, 3, 2, l...)))
	for _, kind := range []int{api.OpSeq, api.OpAnd, api.OpOr} {
		x, places := made(t, op(kind, 2, 5)), spots{}
		first, _ := x.Feed(0, p)
		second, _ := x.Feed(1, o)
		for _, q := range slices.Concat(first, second, slices.Collect(x.All(0)), slices.Collect(x.All(1))) {
			if !places.take(q) {
				t.Errorf("%s has lists that share memory", shown(q))
			}
		}
	}
}

// What the operator does is nobody's else.
func TestOpIsNobodysElse(t *testing.T) {
	o := term("a", conds(t, "x > 1, x > 2"), conds(t, "a.x < 9, a.x < 8"))
	want := o
	want.Tests, want.Conds = slices.Clone(o.Tests), slices.Clone(o.Conds)
	x := made(t, o)
	y := restored(t, o, packed(nat(5)+nat(0)))
	spoilOp := func(o api.Op) {
		for _, l := range [][]api.Cond{o.Tests, o.Conds} {
			for i := range l {
				l[i] = api.Cond{}
			}
			_ = append(l, api.Cond{})
		}
	}
	spoilOp(o)
	for range 2 {
		for _, z := range []*oper.Oper{x, y, x.Clone(), y.Clone()} {
			if !alikeOps(z.Op(), want) {
				t.Errorf("%v, not %v", z.Op(), want)
			}
			spoilOp(z.Op())
			wantFed(t, z, 0, raw(ev(0, 0, 7, attr("x", num(5)))), one(t, "a0.0@7:5"))
			wantFed(t, z, 0, raw(ev(0, 0, 7, attr("x", num(2)))))
			wantFed(t, z, 0, raw(ev(0, 0, 7, attr("x", num(8)))))
		}
	}
}

func TestStatesAreNobodysElse(t *testing.T) {
	o, marks, first, second := fine(t)
	b := packed(marks + first + second)
	was := slices.Clone(b)
	x := restored(t, o, b)
	if !bytes.Equal(b, was) {
		t.Error("what was handed in was written to")
	}
	clear(b)
	one, two := snapshot(t, x), snapshot(t, x)
	clear(one)
	if !bytes.Equal(two, was) || !bytes.Equal(snapshot(t, x), was) {
		t.Error("two calls' bytes are shared")
	}
}

// R6
func TestAgain(t *testing.T) {
	r := dice()
	for round := range 300 {
		w := world{r, t, round%2 == 0, 0}
		o := w.op(1 + round%5)
		x := newPair(t, o)
		for range 5 * o.Inputs {
			w.step(x)
		}
		p, input := w.fed(o, 0), w.IntN(o.Inputs)
		state := snapshot(t, x.x)
		first, firstErr := x.x.Clone().Feed(input, p)
		for range 5 {
			y := x.x.Clone()
			l, err := y.Feed(input, p)
			if err != firstErr || !slices.EqualFunc(l, first, alike) || !bytes.Equal(snapshot(t, x.x), state) {
				t.Fatalf("%v: %s, error %d, not %s, error %d", o, shownAll(l), err, shownAll(first), firstErr)
			}
		}
	}
}
