package shelf_test

import (
	"math"
	"slices"
	"strconv"
	"testing"

	"eyrie/api"
	"eyrie/shelf"
)

func TestExample(t *testing.T) {
	s := made(t, 2)
	if err := s.Put(span(1, 4), "a"); err != api.OK {
		t.Errorf("a: error %d", err)
	}
	if err := s.Put(span(3, 3), "b"); err != api.OK {
		t.Errorf("b: error %d", err)
	}
	if err := s.Put(span(5, 5), "c"); err != api.ErrFull {
		t.Errorf("c: error %d", err)
	}
	if l := slices.Collect(s.Ending(4)); !slices.Equal(l, []string{"b"}) {
		t.Errorf("Ending(4): %q", l)
	}
	if l := slices.Collect(s.Beginning(1)); !slices.Equal(l, []string{"b"}) {
		t.Errorf("Beginning(1): %q", l)
	}
	if n := s.Clear(2); n != 1 {
		t.Errorf("Clear(2): %d", n)
	}
	if at, ok := s.Oldest(); at != 3 || !ok {
		t.Errorf("Oldest: %d, %v", at, ok)
	}
}

// P13.1

func TestNew(t *testing.T) {
	for _, most := range []int{0, -1, -2, -maxShelf, math.MinInt, maxShelf + 1, maxShelf + 2, 1 << 15, 1 << 32, 1<<32 + 1, math.MaxInt} {
		if s, err := shelf.New[string](most); err != api.ErrArg || s != nil {
			t.Errorf("New(%d): error %d", most, err)
		}
	}
	for _, most := range []int{1, 2, 3, 100, 4096, maxShelf - 1, maxShelf} {
		wantShelf(t, made(t, most), model{most: most})
	}
	a, b := made(t, 2), made(t, 2)
	wantPut(t, a, model{most: 2}, span(1, 1), "a")
	wantShelf(t, b, model{most: 2})
}

func TestPut(t *testing.T) {
	s, m := made(t, maxShelf), model{most: maxShelf}
	for _, o := range several() {
		m = wantPut(t, s, m, o.x, o.v)
		wantShelf(t, s, m)
	}
	if len(m.things) != len(several()) {
		t.Errorf("%d things are there", len(m.things))
	}
}

// Each begin with each end, the edges among them.
func TestPutSpans(t *testing.T) {
	times := []int64{0, 1, 2, 5, maxTime - 1, maxTime, maxTime + 1, maxTime + 2, 1 << 41, -1, -2, -maxTime, math.MinInt64, math.MinInt64 + 1, math.MaxInt64 - 1, math.MaxInt64}
	may, mayNot := 0, 0
	for _, begin := range times {
		for _, end := range times {
			s, m := filled(t, 3, thing{span(1, 2), "a"})
			n := wantPut(t, s, m, span(begin, end), "v")
			wantShelf(t, s, n)
			if len(n.things) == 2 {
				may++
			} else {
				mayNot++
			}
			// what may not be is told ahead of what has no room
			s, m = filled(t, 1, thing{span(1, 2), "a"})
			wantShelf(t, s, wantPut(t, s, m, span(begin, end), "v"))
		}
	}
	if may != 6*7/2 || mayNot != len(times)*len(times)-may {
		t.Errorf("%d may be, %d may not", may, mayNot)
	}
}

// As many as may be have room, and no more; what has gone leaves room.
func TestPutFull(t *testing.T) {
	for most := 1; most <= 20; most++ {
		s, m := made(t, most), model{most: most}
		for i := range most {
			if m = wantPut(t, s, m, span(int64(i), int64(i)), strconv.Itoa(i)); len(m.things) != i+1 {
				t.Fatalf("%d things of %d have no room", i+1, most)
			}
		}
		for range 3 {
			if err := s.Put(span(1, 2), "more"); err != api.ErrFull {
				t.Fatalf("one more than %d: error %d", most, err)
			}
			wantShelf(t, s, m)
		}
		m = wantClear(t, s, m, 1)
		m = wantPut(t, s, m, span(9, 9), "again")
		if err := s.Put(span(1, 2), "more"); err != api.ErrFull {
			t.Fatalf("one more than %d: error %d", most, err)
		}
		wantShelf(t, s, m)
	}
}

// P13.2

func TestClear(t *testing.T) {
	_, m := filled(t, 20, several()...)
	for _, horizon := range m.edges() {
		s, m := filled(t, 20, several()...)
		m = wantClear(t, s, m, horizon)
		wantShelf(t, s, m)
		// the next one goes behind those that stayed
		m = wantPut(t, s, m, span(0, 1), "next")
		wantShelf(t, s, m)
	}
	s, m := filled(t, 20)
	for _, horizon := range []int64{0, 1, math.MinInt64, math.MaxInt64} {
		wantShelf(t, s, wantClear(t, s, m, horizon))
	}
}

// Each choice of six things: some of them alike, so that each one is asked for itself.
func TestTake(t *testing.T) {
	for choice := range 1 << 6 {
		s, m := filled(t, 6, several()[:6]...)
		was := model{most: m.most, things: slices.Clone(m.things)}
		var want []thing
		for i, o := range was.things {
			if choice>>i&1 == 0 {
				want = append(want, o)
			}
		}
		at := 0
		gone := s.Take(func(x api.Span, v string) bool {
			if at >= 6 || was.things[at] != (thing{x, v}) {
				t.Fatalf("asked of %v %q at %d", x, v, at)
			}
			at++
			return choice>>(at-1)&1 == 1
		})
		if at != 6 || gone != 6-len(want) {
			t.Fatalf("choice %06b: asked %d times, %d gone", choice, at, gone)
		}
		m = model{most: 6, things: want}
		wantShelf(t, s, m)
		if gone > 0 {
			m = wantPut(t, s, m, span(7, 7), "next")
		}
		wantShelf(t, s, m)
	}
}

func TestTakeByWhatItIs(t *testing.T) {
	for _, is := range []func(thing) bool{
		func(thing) bool { return true }, func(thing) bool { return false },
		func(o thing) bool { return o.v == "a" }, func(o thing) bool { return o.x.End == 9 }, func(o thing) bool { return o.x.Begin > 3 },
	} {
		s, m := filled(t, 10, several()...)
		m = wantTake(t, s, m, is)
		wantShelf(t, s, m)
		m = wantTake(t, s, m, is)
		wantShelf(t, s, m)
	}
	s, m := filled(t, 10)
	wantShelf(t, s, wantTake(t, s, m, func(thing) bool { return true }))
}

func TestTakeOfNil(t *testing.T) {
	s, m := filled(t, 20, several()...)
	if n := s.Take(nil); n != 0 {
		t.Errorf("%d gone", n)
	}
	wantShelf(t, s, m)
}

// P13.3: all of it, of what comes by chance.
func TestTells(t *testing.T) {
	r := dice()
	for range 300 {
		l := few(r, r.IntN(30))
		s, m := filled(t, 30, l...)
		wantShelf(t, s, m)
		if len(l) > 0 && !slices.Equal(m.things, l) {
			t.Fatalf("%v are there, not %v", m.things, l)
		}
	}
}

func TestOldest(t *testing.T) {
	for _, at := range []int64{0, 1, 7, maxTime - 1, maxTime} {
		s, m := filled(t, 3, thing{span(at, maxTime), "a"})
		wantShelf(t, s, m)
		if oldest, ok := s.Oldest(); oldest != at || !ok {
			t.Errorf("begun at %d: Oldest %d, %v", at, oldest, ok)
		}
		// a later one changes nothing, whether it begins ahead of it or behind
		m = wantPut(t, s, m, span(maxTime, maxTime), "b")
		wantShelf(t, s, m)
		m = wantPut(t, s, m, span(0, 0), "c")
		wantShelf(t, s, m)
		if oldest, ok := s.Oldest(); oldest != 0 || !ok {
			t.Errorf("begun at 0: Oldest %d, %v", oldest, ok)
		}
	}
}

func TestClone(t *testing.T) {
	for n := range 11 {
		s, m := filled(t, 12, several()[:n]...)
		c := s.Clone()
		wantShelf(t, c, m)
		// both go on, each its own way
		ms := wantPut(t, s, m, span(5, 6), "of s")
		mc := wantPut(t, c, m, span(7, 8), "of c")
		wantShelf(t, s, ms)
		wantShelf(t, c, mc)
		ms = wantClear(t, s, ms, 3)
		mc = wantTake(t, c, mc, func(o thing) bool { return o.v == "a" })
		wantShelf(t, s, ms)
		wantShelf(t, c, mc)
		d := c.Clone()
		mc = wantPut(t, c, mc, span(1, 1), "of c again")
		md := wantTake(t, d, model{most: mc.most, things: mc.things[:len(mc.things)-1]}, func(thing) bool { return true })
		wantShelf(t, c, mc)
		wantShelf(t, d, md)
	}
	// a clone has no more room
	s, m := filled(t, 1, thing{span(1, 2), "a"})
	c := s.Clone()
	wantPut(t, c, m, span(1, 2), "b")
	wantShelf(t, c, m)
}

// R5

// wantNotMade asks for what is said of a shelf that no call made.
func wantNotMade[T any](t *testing.T, s *shelf.Shelf[T], v T) {
	t.Helper()
	for _, x := range []api.Span{{}, span(1, 2), span(2, 1), span(-1, maxTime+1)} {
		if err := s.Put(x, v); err != api.ErrMade {
			t.Errorf("Put(%v): error %d", x, err)
		}
	}
	asked := 0
	ask := func(api.Span, T) bool { asked++; return true }
	for _, at := range []int64{0, 1, -1, maxTime, math.MinInt64, math.MaxInt64} {
		if s.Clear(at) != 0 {
			t.Errorf("Clear(%d): %d", at, s.Clear(at))
		}
		for range s.Ending(at) {
			t.Errorf("Ending(%d) tells", at)
		}
		for range s.Beginning(at) {
			t.Errorf("Beginning(%d) tells", at)
		}
	}
	for range s.All() {
		t.Error("All tells")
	}
	if s.Take(ask) != 0 || s.Take(nil) != 0 || asked != 0 {
		t.Errorf("Take asked %d times", asked)
	}
	at, ok := s.Oldest()
	if s.Len() != 0 || s.Most() != 0 || at != 0 || ok || s.Clone() != nil {
		t.Errorf("Len %d, Most %d, Oldest %d, %v", s.Len(), s.Most(), at, ok)
	}
}

func TestNotMade(t *testing.T) {
	var texts shelf.Shelf[string]
	wantNotMade(t, &texts, "a")
	wantNotMade[string](t, nil, "a")
	var funcs shelf.Shelf[func()]
	wantNotMade(t, &funcs, nil)
	wantNotMade[func()](t, nil, nil)
	var nothings shelf.Shelf[struct{}]
	wantNotMade(t, &nothings, struct{}{})
	wantNotMade[struct{}](t, nil, struct{}{})
}
