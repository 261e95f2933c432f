package oper_test

import (
	"iter"
	"math"
	"slices"
	"testing"

	"eyrie/api"
	"eyrie/oper"
)

// P14.3

func TestMarkRefuses(t *testing.T) {
	for _, o := range several(t) {
		m := newBusy(t, o)
		for _, i := range append(noInputs(), o.Inputs) {
			for _, time := range []int64{0, 5, -1, forever, forever + 1} {
				wantNoMark(t, m.x, i, time, api.ErrArg)
			}
		}
		for _, i := range []int{0, o.Inputs - 1} {
			for _, time := range []int64{-1, forever + 1, math.MinInt64, math.MaxInt64, 1 << 41} { // ahead of its falling
				wantNoMark(t, m.x, i, time, api.ErrArg)
			}
			for _, time := range []int64{0, 1, 3} {
				wantNoMark(t, m.x, i, time, api.ErrMark)
			}
			m.mark(t, i, 4)
			m.mark(t, i, maxTime)
			wantNoMark(t, m.x, i, maxTime-1, api.ErrMark)
			m.mark(t, i, forever)
			wantNoMark(t, m.x, i, maxTime, api.ErrMark)
			m.mark(t, i, forever)
		}
	}
}

// What begins at the horizon stays, what begins below it goes: of all inputs, and not ahead of the last mark.
func TestMarkLetsGo(t *testing.T) {
	for _, kind := range []int{api.OpSeq, api.OpAnd} {
		x := made(t, op(kind, 3, 5))
		l := some(t, "a0.0@3, a0.1@4, a0.2@4 b0.3@9, a0.3@9 b0.4@4, a0.4@3 b0.5@8, a0.5@8 b0.6@3, a0.6@5, a0.7@20")
		for i := range 3 {
			fed(t, x, i, l...)
		}
		stay := sorted(append(some(t, "a0.2@4 b0.3@9, a0.3@9 b0.4@4"), l[1], l[6], l[7]))
		wantMarked(t, x, 0, 9, 0, false)
		wantMarked(t, x, 2, 30, 0, false)
		for i := range 3 {
			wantKept(t, x, i, sorted(l)...)
		}
		wantMarked(t, x, 1, 8, 8, true)
		for i := range 3 {
			wantKept(t, x, i, sorted(l)...)
		}
		wantMarked(t, x, 1, 8, 8, false)
		wantMarked(t, x, 1, 12, 9, true)
		for i := range 3 {
			wantKept(t, x, i, stay...)
		}
		wantMarked(t, x, 0, 25, 12, true)
		wantMarked(t, x, 1, 25, 25, true)
		for i := range 3 {
			wantKept(t, x, i, l[7])
		}
		wantMarked(t, x, 1, forever, 25, false)
		wantMarked(t, x, 2, forever, 25, false)
		wantKept(t, x, 1, l[7])
		wantMarked(t, x, 0, forever, forever, true)
		for i := range 3 {
			wantKept(t, x, i)
			if x.At(i) != forever {
				t.Errorf("At(%d): %d", i, x.At(i))
			}
		}
	}
}

// A window as great as may be lets nothing go but at the end.
func TestMarkOfAGreatWindow(t *testing.T) {
	x := made(t, op(api.OpAnd, 2, maxTime))
	first, last := one(t, "a0.0@0"), partial(bound("b", ev(0, 1, maxTime)))
	wantFed(t, x, 0, first)
	wantMarked(t, x, 0, forever, 0, false)
	wantMarked(t, x, 1, maxTime, maxTime, true)
	wantKept(t, x, 0, first)
	wantFed(t, x, 1, last, partial(first.Bounds[0], last.Bounds[0]))
	wantMarked(t, x, 1, forever, forever, true)
	wantKept(t, x, 0)
	wantKept(t, x, 1)
}

// Of an input that there is not nothing is kept, and its mark is 0.
func TestNoInputs(t *testing.T) {
	for _, o := range several(t) {
		m := newBusy(t, o)
		for _, i := range append(noInputs(), o.Inputs) {
			wantKept(t, m.x, i)
			if m.x.At(i) != 0 {
				t.Errorf("At(%d): %d", i, m.x.At(i))
			}
		}
		wantModel(t, m.x, m.m)
	}
}

// newBusy is one that is busy, and sure to be.
func newBusy(t *testing.T, o api.Op) *pair {
	t.Helper()
	m := busy(t, o)
	wantModel(t, m.x, m.m)
	if o.Kind != api.OpTerm && m.x.Kept(0) == 0 {
		t.Fatalf("%v keeps nothing", o)
	}
	return m
}

// R5

func TestOfNoCall(t *testing.T) {
	for _, x := range []*oper.Oper{nil, {}} {
		for _, i := range append(noInputs(), 0, 1) {
			for _, p := range []api.Partial{{}, one(t, "a0.0@1"), raw(ev(0, 0, 1)), row(13, 1)} {
				if l, err := x.Feed(i, p); l != nil || err != api.ErrMade {
					t.Errorf("Feed: %v, error %d", l, err)
				}
			}
			for _, time := range []int64{0, -1, 5, forever} {
				if m, rose, err := x.Mark(i, time); m != 0 || rose || err != api.ErrMade {
					t.Errorf("Mark: %d, %v, error %d", m, rose, err)
				}
			}
			if x.At(i) != 0 {
				t.Error("At")
			}
			wantKept(t, x, i)
		}
		if b, err := x.Snapshot(); b != nil || err != api.ErrMade {
			t.Errorf("Snapshot: %v, error %d", b, err)
		}
		if !alikeOps(x.Op(), api.Op{}) || x.Op().Tests != nil || x.Op().Conds != nil || x.Merged() != 0 || x.Clone() != nil {
			t.Error("it is one that a call made")
		}
	}
}

// R3: an iterator tells what was there when it was asked for.

func TestIteratorsTellWhatWasThere(t *testing.T) {
	x := made(t, op(api.OpAnd, 2, 5))
	type told struct {
		seq  iter.Seq[api.Partial]
		want []api.Partial
	}
	var asked []told
	ask := func() {
		asked = append(asked, told{x.All(0), slices.Collect(x.All(0))})
		for _, o := range asked {
			for range 2 {
				if l := slices.Collect(o.seq); !slices.EqualFunc(l, o.want, alike) {
					t.Fatalf("%s, not %s", shownAll(l), shownAll(o.want))
				}
			}
		}
	}
	ask()
	for i, p := range some(t, "b0.0@5, a0.1@7, c0.2@6, b0.3@4, c0.4@5, d0.5@9, a0.0@13") {
		fed(t, x, 0, p)
		ask()
		if i%3 == 2 {
			marked(t, marked(t, x, 0, int64(2*i)), 1, int64(2*i))
			fed(t, x, 0, at(p, 20))
			ask()
		}
	}
	marked(t, marked(t, x, 0, forever), 1, forever)
	ask()
	if len(asked[len(asked)-1].want) != 0 || len(asked[6].want) < 3 {
		t.Errorf("%d are there", len(asked[6].want))
	}
}

// A range stops at any point, is done again, and goes on while the operator changes.
func TestRanges(t *testing.T) {
	l := crowd("a", 9, 7)
	x := fed(t, made(t, op(api.OpOr, 2, 5)), 1, l...)
	all := x.All(0)
	for n := range len(l) + 1 {
		var some []api.Partial
		for p := range all {
			if len(some) == n {
				break
			}
			some = append(some, p)
		}
		if !slices.EqualFunc(some, l[:n], alike) {
			t.Errorf("%d of them: %s", n, shownAll(some))
		}
	}
	seen := 0
	for p := range all {
		if !alike(p, l[seen]) || !slices.EqualFunc(slices.Collect(all), l, alike) {
			t.Errorf("%d: %s", seen, shown(p))
		}
		seen++
		fed(t, x, 0, nth("b", seen, 20))
		for i := range 2 {
			marked(t, x, i, 6+int64(seen))
		}
	}
	if seen != len(l) {
		t.Errorf("%d were told", seen)
	}
}
