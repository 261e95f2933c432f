package event_test

import (
	"bytes"
	"math/rand/v2"
	"slices"
	"testing"

	"eyrie/api"
	"eyrie/bits"
	"eyrie/event"
)

// P4.5

func TestThereAndBack(t *testing.T) {
	for _, e := range many() {
		b := byBytes(t, e)
		o, err := event.Parse(b)
		if err != api.OK || !alike(o, e) || !event.Same(o, e) {
			t.Fatalf("%#v: back %#v, error %d", e, o, err)
		}
		s := bits.NewSink()
		s.Flags(true, false, true)
		if event.Put(s, e) != api.OK || s.Flags(true) != api.OK {
			t.Fatalf("%#v: not put", e)
		}
		r := bits.NewSource(s.Out())
		r.Bits(3)
		if o, err := event.Take(r); err != api.OK || !event.Same(o, e) {
			t.Fatalf("%#v: taken as %#v, error %d", e, o, err)
		}
		if f, err := r.Flag(); !f || err != api.OK {
			t.Fatalf("%#v: more or less was taken than put", e)
		}
	}
}

// again asks that bytes that are an event are just its bytes; it tells whether they are one.
func again(t *testing.T, b []byte) bool {
	t.Helper()
	e, err := event.Parse(b)
	if err != api.OK {
		return false
	}
	if event.Check(e) != api.OK {
		t.Errorf("%x: %#v may not be", b, e)
	}
	if o := byBytes(t, e); !bytes.Equal(o, b) {
		t.Errorf("%x: %#v, whose bytes are %x", b, e, o)
	}
	return true
}

func TestBackAndThere(t *testing.T) {
	r, n := dice(), 0
	for range 30000 {
		b := packed(plain(some(r)))
		for range r.IntN(3) {
			b[r.IntN(len(b))] ^= 1 << r.IntN(8)
		}
		if r.IntN(10) == 0 {
			b = b[:r.IntN(len(b)+1)]
		}
		if again(t, b) {
			n++
		}
		again(t, []byte(noise(r, r.IntN(20))))
	}
	if n < 10000 {
		t.Errorf("only %d are events", n)
	}
}

// All that three bytes say of a source.
func TestBackAndThereShort(t *testing.T) {
	n := 0
	for u := range 1 << 20 {
		if again(t, packed("0101"+wide(u, 20))) {
			n++
		}
	}
	// a type of one letter or _, no attributes: 21 bits with Seq and Time 0, 23 with one of them 1 or 2
	if want := 53 * 5; n != want {
		t.Errorf("%d events, not %d", n, want)
	}
}

// P4.6

// steps does something by chance, and holds it against what the chapter says.
type steps struct {
	x      *event.Streams
	many   int
	events []api.Event
	closed []bool
}

// of is the events that were accepted of a source.
func (s *steps) of(source int) []api.Event {
	var l []api.Event
	for _, e := range s.events {
		if e.ID.Source == source {
			l = append(l, e)
		}
	}
	return l
}

func (s *steps) mark(source int) int64 {
	if s.closed[source] {
		return api.Forever
	}
	if l := s.of(source); len(l) > 0 {
		return l[len(l)-1].Time
	}
	return 0
}

// want is the error that an event asks for.
func (s *steps) want(e api.Event) api.Errno {
	switch err := event.Check(e); {
	case err != api.OK:
		return err
	case e.ID.Source >= s.many:
		return api.ErrEvent
	case s.closed[e.ID.Source]:
		return api.ErrClosed
	case int(e.ID.Seq) != len(s.of(e.ID.Source)):
		return api.ErrSeq
	case e.Time < s.mark(e.ID.Source):
		return api.ErrStale
	}
	return api.OK
}

// some is an event that mostly may be the next one of its source.
func (s *steps) some(r *rand.Rand) api.Event {
	e := some(r)
	e.ID.Source = r.IntN(s.many + r.IntN(2))
	if e.ID.Source >= s.many {
		return e
	}
	e.ID.Seq = int64(len(s.of(e.ID.Source)))
	e.Time = max(s.mark(e.ID.Source)+int64(r.IntN(6)-1), 0)
	if r.IntN(6) == 0 {
		e.ID.Seq = max(e.ID.Seq+int64(r.IntN(3)-1), 0)
	}
	return e
}

func (s *steps) step(t *testing.T, r *rand.Rand) {
	t.Helper()
	if r.IntN(20) == 0 {
		i := r.IntN(s.many)
		want := api.OK
		if s.closed[i] {
			want = api.ErrClosed
		}
		if err := s.x.Close(i); err != want {
			t.Fatalf("Close(%d): error %d, not %d", i, err, want)
		}
		s.closed[i] = true
		return
	}
	e := s.some(r)
	want := s.want(e)
	if err := s.x.Accept(e); err != want {
		t.Fatalf("%#v: error %d, not %d", e, err, want)
	}
	if want == api.OK {
		s.events = append(s.events, e)
	}
}

// holds asks that all that the streams tell is as it should be, and that no mark fell.
func (s *steps) holds(t *testing.T, marks []int64) {
	t.Helper()
	for i := range s.many {
		l := s.of(i)
		if s.x.Next(i) != int64(len(l)) || s.x.Mark(i) != s.mark(i) || s.x.Closed(i) != s.closed[i] || s.x.Mark(i) < marks[i] {
			t.Fatalf("source %d: %d %d %v", i, s.x.Next(i), s.x.Mark(i), s.x.Closed(i))
		}
		for n, e := range l {
			if e.ID.Seq != int64(n) || n > 0 && e.Time < l[n-1].Time {
				t.Fatalf("source %d: %v is its event %d", i, e, n)
			}
		}
		marks[i] = s.x.Mark(i)
	}
	if s.x.Len() != len(s.events) || !slices.EqualFunc(listed(s.x.All()), s.events, alike) {
		t.Fatalf("%d events, not %d", s.x.Len(), len(s.events))
	}
}

func TestTimesDoNotFall(t *testing.T) {
	r := dice()
	accepted := 0
	for range 200 {
		n := 1 + r.IntN(api.MaxSources)
		s := &steps{x: made(t, n), many: n, closed: make([]bool, n)}
		marks := make([]int64, n)
		for range 60 {
			s.step(t, r)
			s.holds(t, marks)
			if r.IntN(10) == 0 {
				s.x = s.x.Clone()
			}
		}
		accepted += len(s.events)
	}
	if accepted < 2000 {
		t.Errorf("only %d events were accepted", accepted)
	}
}
