package shelf_test

import (
	"iter"
	"math"
	"runtime"
	"slices"
	"testing"
	"time"

	"eyrie/api"
	"eyrie/shelf"
)

// R3: an iterator tells what was there when it was asked for.

// told are iterators of a shelf, and what they should tell.
type told struct {
	all               iter.Seq2[api.Span, string]
	ending, beginning iter.Seq[string]
	m                 model
}

func toldOf(s *shelf.Shelf[string], m model) told {
	return told{s.All(), s.Ending(5), s.Beginning(2), m}
}

func (o told) want(t *testing.T) {
	t.Helper()
	for range 2 {
		if l := listed(o.all); !slices.Equal(l, o.m.things) {
			t.Fatalf("All: %v, not %v", l, o.m.things)
		}
		if l := slices.Collect(o.ending); !slices.Equal(l, o.m.ending(5)) {
			t.Fatalf("Ending: %q, not %q", l, o.m.ending(5))
		}
		if l := slices.Collect(o.beginning); !slices.Equal(l, o.m.beginning(2)) {
			t.Fatalf("Beginning: %q, not %q", l, o.m.beginning(2))
		}
	}
}

func TestIteratorsTellWhatWasThere(t *testing.T) {
	s, m := filled(t, 20)
	var asked []told
	step := func(n model) {
		m = n
		asked = append(asked, toldOf(s, m))
		for _, o := range asked {
			o.want(t)
		}
	}
	step(m)
	for range 3 {
		for _, o := range several() {
			if len(m.things) < 20 {
				step(wantPut(t, s, m, o.x, o.v))
			}
		}
		step(wantTake(t, s, m, func(o thing) bool { return o.v == "b" }))
		step(wantClear(t, s, m, 3))
		step(wantPut(t, s, m, span(4, 4), "more"))
	}
	step(wantClear(t, s, m, math.MaxInt64))
	step(wantPut(t, s, m, span(4, 4), "the last"))
}

// A range stops at any point, and is done again.
func TestRangesStop(t *testing.T) {
	s, m := filled(t, 20, several()...)
	all, ending, beginning := s.All(), s.Ending(maxTime), s.Beginning(0)
	for n := range len(m.things) + 1 {
		var l []thing
		for x, v := range all {
			if len(l) == n {
				break
			}
			l = append(l, thing{x, v})
		}
		if !slices.Equal(l, m.things[:n]) {
			t.Errorf("%d of All: %v", n, l)
		}
		wantFirst(t, ending, n, m.ending(maxTime))
		wantFirst(t, beginning, n, m.beginning(0))
	}
	toldOf(s, m).want(t)
}

func wantFirst(t *testing.T, l iter.Seq[string], n int, all []string) {
	t.Helper()
	var got []string
	for v := range l {
		if len(got) == n {
			break
		}
		got = append(got, v)
	}
	if !slices.Equal(got, all[:min(n, len(all))]) {
		t.Errorf("%d of %q: %q", n, all, got)
	}
}

// A range within a range, while the shelf changes.
func TestRangesWithinRanges(t *testing.T) {
	s, m := filled(t, 200, several()...)
	all, seen := s.All(), 0
	for x, v := range all {
		if m.things[seen] != (thing{x, v}) {
			t.Errorf("%d: %v, %q", seen, x, v)
		}
		if l := listed(all); !slices.Equal(l, m.things) {
			t.Errorf("within: %v", l)
		}
		s.Put(span(1, 1), "new")
		s.Clear(int64(seen))
		s.Take(func(_ api.Span, v string) bool { return v == "a" })
		seen++
	}
	if seen != len(m.things) {
		t.Errorf("%d were told", seen)
	}
}

// What is done to the shelf while Take asks: each one that was there is asked for, and nothing is lost.
func TestTakeWhileTheShelfChanges(t *testing.T) {
	s, m := filled(t, 20, several()...)
	var want []thing
	asked := 0
	gone := s.Take(func(x api.Span, v string) bool {
		if m.things[asked] != (thing{x, v}) {
			t.Errorf("asked of %v, %q", x, v)
		}
		asked++
		if v == "a" {
			return true
		}
		if err := s.Put(span(8, 8), "behind "+v); err != api.OK {
			t.Errorf("Put: error %d", err)
		}
		want = append(want, thing{span(8, 8), "behind " + v})
		return false
	})
	n, many := m.less(func(o thing) bool { return o.v == "a" })
	n.things = append(n.things, want...)
	if gone != many || asked != len(m.things) {
		t.Errorf("%d gone, %d asked", gone, asked)
	}
	wantShelf(t, s, n)

	// those that are gone meanwhile are gone, and no other goes in their stead
	s, m = filled(t, 20, several()...)
	gone = s.Take(func(x api.Span, v string) bool {
		s.Clear(3)
		s.Take(func(_ api.Span, v string) bool { return v == "c" })
		return v == "a" || v == "b"
	})
	n, _ = m.clear(3)
	n, _ = n.less(func(o thing) bool { return o.v == "c" })
	n, many = n.less(func(o thing) bool { return o.v == "a" })
	if gone != many || many == 0 {
		t.Errorf("%d gone, not %d", gone, many)
	}
	wantShelf(t, s, n)

	// one that goes on putting comes to an end
	s, m = filled(t, maxShelf, several()...)
	if gone := s.Take(func(api.Span, string) bool { return s.Put(span(1, 1), "") == api.OK }); gone != len(m.things) || s.Len() != len(m.things) {
		t.Errorf("%d gone, %d there", gone, s.Len())
	}
}

// R1: a function that panics says true of nothing.
func TestTakeOfWhatPanics(t *testing.T) {
	s, m := filled(t, 20, several()...)
	var none map[string]int
	asked := 0
	gone := s.Take(func(x api.Span, v string) bool {
		asked++
		switch v {
		case "a":
			panic("a")
		case "b":
			none["b"]++
		case "c":
			panic(nil)
		}
		return true
	})
	n, many := m.less(func(o thing) bool { return o.v != "a" && o.v != "b" && o.v != "c" })
	if gone != many || asked != len(m.things) {
		t.Errorf("%d gone, %d asked", gone, asked)
	}
	wantShelf(t, s, n)
	if s.Take(func(api.Span, string) bool { panic("each") }) != 0 {
		t.Error("some are gone")
	}
	wantShelf(t, s, n)
}

// What a T holds within itself is not copied.
func TestThingsOfAnyType(t *testing.T) {
	number := 1
	wantThing(t, &number, func(v *int) bool { return v == &number })
	l := []int{1, 2}
	wantThing(t, l, func(v []int) bool { return len(v) == 2 && &v[0] == &l[0] })
	wantThing[[]int](t, nil, func(v []int) bool { return v == nil })
	wantThing(t, map[string]int{"a": 1}, func(v map[string]int) bool { return v["a"] == 1 })
	wantThing(t, func() int { return 7 }, func(v func() int) bool { return v() == 7 })
	wantThing[any](t, nil, func(v any) bool { return v == nil })
	wantThing[any](t, []int{5}, func(v any) bool { return v.([]int)[0] == 5 })
	wantThing(t, math.NaN(), func(v float64) bool { return v != v })
	wantThing(t, struct{}{}, func(struct{}) bool { return true })
	wantThing(t, [3]string{"a", "", "b"}, func(v [3]string) bool { return v == [3]string{"a", "", "b"} })
	wantThing(t, api.Partial{Bounds: []api.Bound{{Var: "a"}}}, func(v api.Partial) bool { return v.Bounds[0].Var == "a" })
	within, _ := shelf.New[int](1)
	wantThing(t, within, func(v *shelf.Shelf[int]) bool { return v == within })
}

// wantThing puts v three times, and asks whether it is told as it is.
func wantThing[T any](t *testing.T, v T, is func(T) bool) {
	t.Helper()
	s, err := shelf.New[T](3)
	if err != api.OK {
		t.Fatalf("error %d", err)
	}
	for i := range 3 {
		if err := s.Put(span(int64(i), 5), v); err != api.OK {
			t.Fatalf("error %d", err)
		}
	}
	seen := 0
	see := func(v T) {
		if seen++; !is(v) {
			t.Errorf("%T: another one", v)
		}
	}
	for _, v := range s.Clone().All() {
		see(v)
	}
	for v := range s.Ending(6) {
		see(v)
	}
	for v := range s.Beginning(-1) {
		see(v)
	}
	s.Take(func(x api.Span, v T) bool { see(v); return x.Begin == 1 })
	if s.Len() != 2 || s.Clear(1) != 1 || s.Len() != 1 || seen != 12 {
		t.Errorf("%T: %d were told, %d are there", v, seen, s.Len())
	}
}

// big is so much that it is seen whether it is held.
type big [1 << 20]byte

// What is gone is not held any more.
func TestWhatIsGoneIsNotHeld(t *testing.T) {
	for _, drop := range []func(*shelf.Shelf[*big]) int{
		func(s *shelf.Shelf[*big]) int { return s.Clear(5) },
		func(s *shelf.Shelf[*big]) int {
			return s.Take(func(x api.Span, _ *big) bool { return x.Begin < 5 })
		},
	} {
		s, _ := shelf.New[*big](10)
		freed := make(chan bool, 9)
		for i := range 10 {
			v := new(big)
			if i < 9 {
				runtime.AddCleanup(v, func(c chan bool) { c <- true }, freed)
			}
			s.Put(span(int64(i/9*5), 9), v)
		}
		if n := drop(s); n != 9 || s.Len() != 1 {
			t.Fatalf("%d gone, %d there", n, s.Len())
		}
		runtime.GC()
		late := time.After(20 * time.Second)
		for i := range 9 {
			select {
			case <-freed:
			case <-late:
				t.Fatalf("%d are still held", 9-i)
			}
		}
		runtime.KeepAlive(s)
	}
}
