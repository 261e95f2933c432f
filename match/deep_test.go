package match_test

import (
	"slices"
	"strings"
	"testing"
	"time"

	"eyrie/api"
	"eyrie/bits"
	"eyrie/match"
)

// THE BOUND: very much, in near-linear time: were it the square of it, each of them would take minutes.

// soon fails, if something takes far longer than near-linear time.
func soon(t *testing.T, what string, f func()) {
	t.Helper()
	begin := time.Now()
	f()
	if d := time.Since(begin); d > 20*time.Second {
		t.Errorf("%s: %v", what, d)
	}
}

const much = 1 << 18

// long is a partial match of so many bounds, which may not be.
func long(n int) api.Partial {
	var p api.Partial
	for i := range n {
		p.Bounds = append(p.Bounds, bound("a", ev(i%4, int64(i/4), int64(n-i), attr("x", num(int64(i))))))
	}
	return p
}

func TestManyBounds(t *testing.T) {
	soon(t, "many bounds", func() {
		p, o := long(much), long(much)
		last := &o.Bounds[much-1]
		wantSame(t, p, o, true)
		wantCompare(t, p, o, 0)
		last.Event.ID.Seq++
		wantSame(t, p, o, false)
		wantCompare(t, p, o, -1)
		wantCheck(t, p, api.ErrPartial)
		wantTimes(t, p, 1, much)
		wantWithin(t, p, much-1, true)
		wantWithin(t, p, much-2, false)
		if !alike(match.Clone(p), p) {
			t.Error("Clone")
		}
		wantNoMerge(t, p, o)
		wantNoMerge(t, row(2), o)
		last.Var = "last"
		wantGet(t, o, "last", last.Event, true)
		wantGet(t, o, "none", api.Event{}, false)
		if b, err := match.Bytes(p); b != nil || err != api.ErrPartial {
			t.Errorf("Bytes: error %d", err)
		}
		s := match.NewSet(p, row(2), o)
		wantHas(t, s, p, false)
		wantAdd(t, s, o, false)
		wantSet(t, s, row(2))
	})
}

// Variables and events that are very long.
func TestLongTexts(t *testing.T) {
	text := strings.Repeat("n", 1<<24)
	e := ev(0, 0, 0, attr(text, str(text)))
	p, o := partial(bound(text, e)), partial(bound(strings.Clone(text), e), bound("", ev(0, 0, 0)))
	soon(t, "long texts", func() {
		wantCheck(t, p, api.ErrPartial)
		wantCheck(t, partial(bound("a", e)), api.ErrName)
		wantCompare(t, p, o, -1)
		wantSame(t, p, partial(o.Bounds[0]), true)
		wantNoMerge(t, p, o)
		wantHas(t, match.NewSet(row(2), p), o, false)
		wantGet(t, o, text, e, true)
	})
}

// A Var of very many bytes, ahead of an event.
func TestTakeOfLongBytes(t *testing.T) {
	s := bits.NewSource(append(packed("0001"+nat(1<<23)+zeros(1)), make([]byte, 1<<24)...))
	soon(t, "long bytes", func() {
		left := s.Left()
		if p, err := match.Take(s); err != api.ErrCode || !none(p) || s.Left() != left {
			t.Errorf("%s, error %d", shown(p), err)
		}
		if p, err := match.Parse(make([]byte, 1<<25)); err != api.ErrMore || !none(p) {
			t.Errorf("%s, error %d", shown(p), err)
		}
	})
}

// Many of one source: each takes no more time because of the others.
func TestTakeOfMany(t *testing.T) {
	form := byBytes(t, partial(bound("a", ev(0, 1, 5)), bound("b", ev(1, 0, 7))))
	s := bits.NewSource(slices.Repeat(form, much))
	fill := 8*len(form) - len(plain(partial(bound("a", ev(0, 1, 5)), bound("b", ev(1, 0, 7)))))
	soon(t, "many of one source", func() {
		for range much {
			if p, err := match.Take(s); err != api.OK || len(p.Bounds) != 2 {
				t.Fatalf("%s, error %d", shown(p), err)
			}
			s.Bits(fill)
		}
	})
	if s.Left() != 0 {
		t.Errorf("%d bits are left", s.Left())
	}
}

// Very many in a set, put in rising, falling and in no order.
func TestManyInASet(t *testing.T) {
	var rising []api.Partial
	for i := range much {
		rising = append(rising, partial(bound("a", ev(i>>14, int64(i&(1<<14-1)), 5)), bound("b", ev(0, int64(much+i), 5))))
	}
	falling := slices.Clone(rising)
	slices.Reverse(falling)
	mixed := slices.Clone(rising)
	dice().Shuffle(much, func(i, j int) { mixed[i], mixed[j] = mixed[j], mixed[i] })
	soon(t, "many in a set", func() {
		first := match.NewSet(rising...)
		for _, l := range [][]api.Partial{falling, mixed, slices.Concat(mixed, rising)} {
			s := match.NewSet(l...)
			if !slices.EqualFunc(listed(s.All()), rising, alike) {
				t.Error("others, or another order")
			}
			wantSameSets(t, s, first, true)
			wantAdd(t, s, row(3), true)
			wantSameSets(t, s, first, false)
			if c := s.Clone(); c.Len() != much+1 || !c.Same(s) {
				t.Error("Clone")
			}
		}
		for _, p := range mixed {
			if first.Add(p) || !first.Has(p) {
				t.Fatalf("%s is not there", shown(p))
			}
		}
	})
}
