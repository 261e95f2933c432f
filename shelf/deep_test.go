package shelf_test

import (
	"slices"
	"testing"
	"time"

	"eyrie/api"
	"eyrie/shelf"
)

// THE BOUND: shelves as full as may be, in near-linear time: were it the square of it, each of them would take minutes.

// soon fails, if something takes far longer than near-linear time.
func soon(t *testing.T, what string, f func()) {
	t.Helper()
	begin := time.Now()
	f()
	if d := time.Since(begin); d > 20*time.Second {
		t.Errorf("%s: %v", what, d)
	}
}

// full is a shelf with as many things as may be: the i-th one begins at i and ends at 2 i.
func full(t *testing.T) *shelf.Shelf[int] {
	t.Helper()
	s, err := shelf.New[int](maxShelf)
	if err != api.OK {
		t.Fatalf("error %d", err)
	}
	for i := range maxShelf {
		if err := s.Put(span(int64(i), int64(2*i)), i); err != api.OK {
			t.Fatalf("%d: error %d", i, err)
		}
	}
	if err := s.Put(span(0, 0), 0); err != api.ErrFull || s.Len() != maxShelf {
		t.Fatalf("error %d, Len %d", err, s.Len())
	}
	return s
}

func TestFull(t *testing.T) {
	soon(t, "a full shelf", func() {
		for range 50 {
			s := full(t)
			c := s.Clone()
			half := func(x api.Span, v int) bool { return v%2 == 1 }
			if n := s.Take(half); n != maxShelf/2 {
				t.Errorf("%d gone", n)
			}
			if n := s.Clear(maxShelf / 2); n != maxShelf/4 || s.Len() != maxShelf/4 {
				t.Errorf("%d gone, %d there", n, s.Len())
			}
			at := maxShelf / 2
			for x, v := range s.All() {
				if v != at || x != span(int64(at), int64(2*at)) {
					t.Fatalf("%d at %d", v, at)
				}
				at += 2
			}
			if n := len(slices.Collect(c.Ending(maxShelf))); n != maxShelf/2 || c.Len() != maxShelf {
				t.Errorf("Ending: %d of %d", n, c.Len())
			}
			if n := len(slices.Collect(c.Beginning(maxShelf / 4))); n != maxShelf*3/4-1 {
				t.Errorf("Beginning: %d", n)
			}
			if n := c.Take(func(api.Span, int) bool { return true }); n != maxShelf || c.Len() != 0 {
				t.Errorf("%d gone, %d there", n, c.Len())
			}
		}
	})
}

// All of a full shelf are asked for, again and again.
func TestTakeOfManyThings(t *testing.T) {
	soon(t, "taking", func() {
		s := full(t)
		for i := range 500 {
			c := s.Clone()
			keep := i * (maxShelf / 500)
			if n := c.Take(func(_ api.Span, v int) bool { return v != keep }); n != maxShelf-1 {
				t.Fatalf("%d gone", n)
			}
			if l := slices.Collect(c.Ending(maxTime)); !slices.Equal(l, []int{keep}) {
				t.Fatalf("%d stayed, not %d", l, keep)
			}
		}
	})
}

// Things come and go for long: a full shelf goes on as an empty one.
func TestComingAndGoing(t *testing.T) {
	soon(t, "coming and going", func() {
		s := full(t)
		for i := range 1000 {
			if n := s.Clear(int64(i + 1)); n != 1 {
				t.Fatalf("%d gone", n)
			}
			if err := s.Put(span(int64(maxShelf+i), int64(maxShelf+i)), maxShelf+i); err != api.OK {
				t.Fatalf("error %d", err)
			}
			if at, ok := s.Oldest(); at != int64(i+1) || !ok {
				t.Fatalf("Oldest %d, %v", at, ok)
			}
		}
		at := 1000
		for _, v := range s.All() {
			if v != at {
				t.Fatalf("%d at %d", v, at)
			}
			at++
		}
	})
}
