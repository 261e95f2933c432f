package oper_test

import (
	"bytes"
	"math/rand/v2"
	"slices"
	"testing"

	"eyrie/api"
	"eyrie/match"
	"eyrie/oper"
)

// item is what is fed or marked on an input.
type item struct {
	input int
	p     api.Partial // of no bounds: a mark
	mark  int64
}

// things are what is to be fed and marked, of each input in an order in which it may be; the inputs by turns.
func (w world) things(o api.Op) []item {
	var l []item
	for i := range o.Inputs {
		for range 3 + w.IntN(4) {
			if p := w.partial(1+w.IntN(2), letters(5)[i%3:]...); len(p.Bounds) > 0 {
				l = append(l, item{input: i, p: p})
			}
		}
		for time := range 3 {
			l = append(l, item{input: i, mark: int64(time*3) + w.Int64N(3)})
		}
	}
	return l
}

// ordered are things in one of the orders in which nothing of them is refused.
func (w world) ordered(l []item) []item {
	left := slices.Clone(l)
	var order []item
	for len(left) > 0 {
		w.Shuffle(len(left), func(i, k int) { left[i], left[k] = left[k], left[i] })
		next := slices.IndexFunc(left, func(x item) bool {
			return !slices.ContainsFunc(left, func(y item) bool {
				if x.input != y.input || len(x.p.Bounds) > 0 {
					return false
				}
				return len(y.p.Bounds) > 0 && match.End(y.p) < x.mark || len(y.p.Bounds) == 0 && y.mark < x.mark
			})
		})
		order = append(order, left[next])
		left = slices.Delete(left, next, next+1)
	}
	return order
}

// history is what was told of what was taken, and what was taken.
type history struct {
	told  []api.Partial
	taken [][]api.Partial
}

// do feeds and marks, and asks of each step for what P14.7 says.
func (h *history) do(t *testing.T, x *oper.Oper, l ...item) {
	t.Helper()
	o := x.Op()
	for _, c := range l {
		if len(c.p.Bounds) == 0 {
			x.Mark(c.input, c.mark)
		} else if told, err := x.Feed(c.input, c.p); err == api.OK {
			h.taken[c.input] = append(h.taken[c.input], c.p)
			for _, p := range told {
				if !modelPasses(o, p) || match.End(p) < x.Merged() {
					t.Fatalf("%v: %s came out at %d", o, shown(p), x.Merged())
				}
			}
			h.told = append(h.told, told...)
		}
		horizon := (&model{o: o, marks: marksOf(x)}).horizon()
		for i := range o.Inputs {
			for p := range x.All(i) {
				if match.Begin(p) < horizon {
					t.Fatalf("%v: %s is kept at %d", o, shown(p), horizon)
				}
			}
		}
	}
}

func marksOf(x *oper.Oper) []int64 {
	var l []int64
	for i := range x.Op().Inputs {
		l = append(l, x.At(i))
	}
	return l
}

func begun(o api.Op) *history { return &history{taken: make([][]api.Partial, o.Inputs)} }

// P14.5, and P14.7 on its way: whatever is marked, also such that some of it is refused.
func TestNothingIsLost(t *testing.T) {
	r, some, late := dice(), 0, 0
	for round := range 3000 {
		w := world{r, t, false, 0}
		o := w.op(api.OpSeq + round%2)
		x, h := made(t, o), begun(o)
		things := w.things(o)
		if round%3 > 0 {
			things = w.ordered(things)
		} else {
			w.Shuffle(len(things), func(i, k int) { things[i], things[k] = things[k], things[i] })
		}
		h.do(t, x, things...)
		want := wholes(ways(o, h.taken))
		if got := sorted(h.told); !slices.EqualFunc(got, want, alike) {
			t.Fatalf("%v: %s, not %s", o, shownAll(got), shownAll(want))
		}
		if len(want) > 0 {
			some++
		}
		for _, c := range things {
			if len(c.p.Bounds) > 0 && !slices.ContainsFunc(h.taken[c.input], func(p api.Partial) bool { return alike(p, c.p) }) {
				late++
			}
		}
	}
	if some < 1000 || late < 300 {
		t.Errorf("of %d something came, %d came too late", some, late)
	}
}

// P14.6
func TestOrderSaysNothing(t *testing.T) {
	r, more := dice(), 0
	for round := range 600 {
		w := world{r, t, false, 0}
		o := w.op(api.OpSeq + round%2)
		things := w.things(o)
		var first []api.Partial
		for again := range 6 {
			x, h := made(t, o), begun(o)
			order := w.ordered(things)
			h.do(t, x, order...)
			taken := 0
			for _, l := range h.taken {
				taken += len(l)
			}
			if taken+3*o.Inputs != len(things) {
				t.Fatalf("%d of %d were taken", taken, len(things)-3*o.Inputs)
			}
			got := sorted(h.told)
			if again == 0 {
				first = got
			}
			if !slices.EqualFunc(got, first, alike) {
				t.Fatalf("%v: %s, not %s", o, shownAll(got), shownAll(first))
			}
		}
		if len(first) > 1 {
			more++
		}
	}
	if more < 100 {
		t.Errorf("of %d only something came", more)
	}
}

// P14.7, of OpOr and OpRoot, too: all that is told is told once, whatever is marked.
func TestTellsEachOnce(t *testing.T) {
	r := dice()
	for round := range 1000 {
		w := world{r, t, false, 0}
		o := w.op(api.OpOr + round%2)
		x, h := made(t, o), begun(o)
		l := w.things(o)
		h.do(t, x, append(w.ordered(l), w.ordered(l)...)...)
		want := slices.DeleteFunc(slices.Concat(h.taken...), func(p api.Partial) bool { return !modelPasses(o, p) })
		if len(h.told) != len(sorted(h.told)) || !slices.EqualFunc(sorted(h.told), sorted(want), alike) {
			t.Fatalf("%v: %s, not %s", o, shownAll(h.told), shownAll(sorted(want)))
		}
	}
}

// P14.8, and Clone: both go on as the operator does, and none of them changes another.
func TestGoesOn(t *testing.T) {
	r := dice()
	for round := range 1500 {
		w := world{r, t, round%2 == 0, 0}
		o := w.op(1 + round%5)
		x := newPair(t, o)
		for range 6 * o.Inputs {
			w.step(x)
		}
		was := snapshot(t, x.x)
		again, clone := restored(t, o, was), x.x.Clone()
		wantAlike(t, again, x.x)
		wantAlike(t, clone, x.x)
		seed := r.Uint64()
		for i, y := range []*oper.Oper{x.x, again, clone} {
			m := &pair{x: y, m: x.m.clone()}
			v := w
			v.Rand = rand.New(rand.NewPCG(seed, 1))
			for range 6 * o.Inputs {
				v.step(m)
			}
			if b := snapshot(t, []*oper.Oper{again, clone, clone}[i]); i < 2 && !bytes.Equal(b, was) {
				t.Fatalf("%v: one changed with another", o)
			}
		}
		if !bytes.Equal(snapshot(t, again), snapshot(t, x.x)) || !bytes.Equal(snapshot(t, clone), snapshot(t, x.x)) {
			t.Fatalf("%v: they went on otherwise", o)
		}
	}
}

// step feeds or marks by chance.
func (w world) step(m *pair) {
	input := w.IntN(m.m.o.Inputs)
	if w.IntN(6) == 0 {
		m.mark(w.t, input, w.next(m.m.marks[input]))
	} else {
		m.feed(w.t, input, w.fed(m.m.o, input))
	}
}

func (m *model) clone() *model {
	c := &model{m.o, slices.Clone(m.marks), slices.Clone(m.kept)}
	for i, l := range c.kept {
		c.kept[i] = slices.Clone(l)
	}
	return c
}

// Few events for many inputs: most ways lead nowhere.
func TestJoinOfManyInputs(t *testing.T) {
	r, told := dice(), 0
	for round := range 400 {
		w := world{r, t, round%4 == 0, 0}
		o := w.op(api.OpSeq + round%2)
		o.Inputs, o.Window = 5+w.IntN(2), 4+w.Int64N(8)
		m := newPair(t, o)
		for range 6 * o.Inputs {
			input := w.IntN(o.Inputs)
			p := w.partial(1, letters(o.Inputs)[input])
			if w.IntN(10) == 0 {
				p = w.partial(w.IntN(3), letters(o.Inputs)...)
			}
			m.feed(t, input, p)
			told += min(m.last, 1)
		}
	}
	if told < 500 {
		t.Errorf("only %d times something came", told)
	}
}
