package shelf_test

import (
	"slices"
	"strconv"
	"testing"

	"eyrie/api"
)

// P13.4

func TestNoneBelowTheHorizon(t *testing.T) {
	r := dice()
	for range 400 {
		s, m := filled(t, 20, few(r, r.IntN(20))...)
		for _, h := range m.edges() {
			c := s.Clone()
			n := wantClear(t, c, m, h)
			for x := range c.All() {
				if x.Begin < h {
					t.Fatalf("%v: behind Clear(%d): %v", m, h, x)
				}
			}
			if oldest, ok := c.Oldest(); ok && oldest < h || ok != (len(n.things) > 0) {
				t.Fatalf("%v: behind Clear(%d): Oldest %d, %v", m, h, oldest, ok)
			}
			if c.Clear(h) != 0 {
				t.Fatalf("%v: Clear(%d) twice", m, h)
			}
		}
	}
}

func TestClearTwice(t *testing.T) {
	r := dice()
	both := 0
	for range 60 {
		s, m := filled(t, 20, few(r, r.IntN(12))...)
		for _, b := range m.edges() {
			once := s.Clone()
			all := once.Clear(b)
			for _, a := range m.edges() {
				if a > b {
					break
				}
				twice := s.Clone()
				first := twice.Clear(a)
				second := twice.Clear(b)
				if first+second != all || !slices.Equal(listed(twice.All()), listed(once.All())) {
					t.Fatalf("%v: Clear(%d), %d leaves %v, Clear(%d) %v", m, a, b, listed(twice.All()), b, listed(once.All()))
				}
				if first > 0 && second > 0 {
					both++
				}
			}
		}
	}
	if both < 1000 {
		t.Errorf("twice things have gone: %d", both)
	}
}

// P13.5

func TestEndingAndTheOthers(t *testing.T) {
	r := dice()
	for range 300 {
		s, m := filled(t, 20, few(r, r.IntN(20))...)
		for _, at := range m.edges() {
			var rest []string
			for x, v := range s.All() {
				if x.End >= at {
					rest = append(rest, v)
				}
			}
			all := m.values(func(thing) bool { return true })
			parts := slices.Concat(slices.Collect(s.Ending(at)), rest)
			slices.Sort(all)
			slices.Sort(parts)
			if !slices.Equal(all, parts) {
				t.Fatalf("%v: Ending(%d) and the others: %q", m, at, parts)
			}
		}
	}
}

// Whatever is done, in whatever order; the same calls answer the same (R6).
func TestWhateverIsDone(t *testing.T) {
	r := dice()
	put, full, gone := 0, 0, 0
	for range 300 {
		most := 1 + r.IntN(24)
		s, again, m := made(t, most), made(t, most), model{most: most}
		for i := range 120 {
			was := len(m.things)
			switch r.IntN(12) {
			case 0:
				h := r.Int64N(14) - 1
				m = wantClear(t, again, m, h)
				s.Clear(h)
			case 1:
				pick := r.IntN(5)
				is := func(o thing) bool { return (len(o.v)+int(o.x.End))%5 == pick }
				m = wantTake(t, again, m, is)
				s.Take(func(x api.Span, v string) bool { return is(thing{x, v}) })
			case 2:
				x := span(r.Int64N(4)-2, r.Int64N(4)-2)
				n := wantPut(t, again, m, x, "edge")
				s.Put(x, "edge")
				m = n
			case 3:
				s = s.Clone()
			default:
				x := someSpan(r)
				if was == most {
					full++
				}
				m = wantPut(t, again, m, x, strconv.Itoa(i))
				s.Put(x, strconv.Itoa(i))
			}
			put += max(0, len(m.things)-was)
			gone += max(0, was-len(m.things))
			if !slices.Equal(listed(s.All()), listed(again.All())) {
				t.Fatalf("%v, then %v", listed(s.All()), listed(again.All()))
			}
			if r.IntN(8) == 0 {
				wantShelf(t, s, m)
			}
		}
		wantShelf(t, s, m)
		wantShelf(t, again, m)
	}
	if put < 5000 || full < 5000 || gone < 5000 {
		t.Errorf("%d put, %d times full, %d gone", put, full, gone)
	}
}
