package event_test

import (
	"iter"
	"math"
	"slices"
	"testing"

	"eyrie/api"
	"eyrie/event"
)

// P4.3, P4.4

// maxEvents is how many events the chapter lets streams accept.
const maxEvents = 1 << 16

// made is streams of so many sources.
func made(t *testing.T, sources int) *event.Streams {
	t.Helper()
	x, err := event.New(sources)
	if err != api.OK || x == nil {
		t.Fatalf("New(%d): error %d", sources, err)
	}
	return x
}

func wantAccept(t *testing.T, x *event.Streams, e api.Event, want api.Errno) {
	t.Helper()
	before := told(x)
	err := x.Accept(e)
	if err != want {
		t.Errorf("%#v: error %d, not %d", e, err, want)
	}
	if after := told(x); err != api.OK && !before.same(after) {
		t.Errorf("%#v: changed by what was refused: %v, not %v", e, after, before)
	}
}

func wantClose(t *testing.T, x *event.Streams, source int, want api.Errno) {
	t.Helper()
	before := told(x)
	err := x.Close(source)
	if err != want {
		t.Errorf("Close(%d): error %d, not %d", source, err, want)
	}
	if after := told(x); err != api.OK && !before.same(after) {
		t.Errorf("Close(%d): changed by what was refused: %v, not %v", source, after, before)
	}
}

// state is what streams tell of a source, and how many events there are.
type state struct {
	len, sources int
	mark, next   [18]int64
	closed       [18]bool
	events       []api.Event
}

func told(x *event.Streams) state {
	s := state{len: x.Len(), sources: x.Sources(), events: listed(x.All())}
	for i := range s.mark {
		s.mark[i], s.next[i], s.closed[i] = x.Mark(i-1), x.Next(i-1), x.Closed(i-1)
	}
	return s
}

func (s state) same(o state) bool {
	return s.len == o.len && s.sources == o.sources && s.mark == o.mark && s.next == o.next && s.closed == o.closed &&
		slices.EqualFunc(s.events, o.events, alike)
}

func listed(seq iter.Seq[api.Event]) []api.Event {
	var l []api.Event
	for e := range seq {
		l = append(l, e)
	}
	return l
}

func TestStreamsExample(t *testing.T) {
	x := made(t, 2)
	wantAccept(t, x, ev(0, 0, 5), api.OK)
	wantAccept(t, x, ev(0, 1, 4), api.ErrStale)
	wantAccept(t, x, ev(0, 2, 6), api.ErrSeq)
	wantAccept(t, x, ev(0, 1, 5), api.OK)
	wantClose(t, x, 0, api.OK)
	wantAccept(t, x, ev(0, 2, 9), api.ErrClosed)
	if x.Mark(0) != api.Forever || x.Mark(1) != 0 {
		t.Errorf("marks %d, %d", x.Mark(0), x.Mark(1))
	}
}

func TestNew(t *testing.T) {
	for _, n := range []int{0, -1, -16, math.MinInt, api.MaxSources + 1, 256, 1<<32 + 1, math.MaxInt} {
		if x, err := event.New(n); err != api.ErrArg || x != nil {
			t.Errorf("New(%d): error %d", n, err)
		}
	}
	for n := 1; n <= api.MaxSources; n++ {
		if s := told(made(t, n)); !s.same(state{sources: n}) {
			t.Errorf("New(%d): %v", n, s)
		}
	}
	if made(t, 1) == made(t, 1) {
		t.Error("two streams are one")
	}
}

func TestAcceptRefuses(t *testing.T) {
	x := made(t, 3)
	wantAccept(t, x, ev(1, 0, 10), api.OK)
	for _, c := range refused() {
		wantAccept(t, x, c.e, c.want)
	}
	// no such source
	for n := 3; n < api.MaxSources; n++ {
		wantAccept(t, x, ev(n, 0, 20), api.ErrEvent)
	}
	for _, n := range []int64{0, 2, 3, api.MaxTime} {
		wantAccept(t, x, ev(1, n, 20), api.ErrSeq)
	}
	for _, n := range []int64{1, 2, api.MaxTime} {
		wantAccept(t, x, ev(0, n, 20), api.ErrSeq)
	}
	for _, n := range []int64{0, 1, 9} {
		wantAccept(t, x, ev(1, 1, n), api.ErrStale)
	}
	wantAccept(t, x, ev(1, 1, 10), api.OK)
	wantAccept(t, x, ev(1, 2, api.MaxTime), api.OK)
	wantAccept(t, x, ev(1, 3, api.MaxTime-1), api.ErrStale)
	wantAccept(t, x, ev(1, 3, api.MaxTime), api.OK)
	// each source by itself
	wantAccept(t, x, ev(0, 0, 0), api.OK)
	wantAccept(t, x, ev(2, 0, 0), api.OK)
	wantAccept(t, x, ev(0, 1, 1), api.OK)
}

// Several errors: Check's, no such source, closed, Seq, Time.
func TestAcceptFirstError(t *testing.T) {
	x := made(t, 2)
	wantAccept(t, x, ev(0, 0, 10), api.OK)
	wantAccept(t, x, ev(1, 0, 10), api.OK)
	wantClose(t, x, 1, api.OK)
	long := make([]api.Attr, 9)
	wantAccept(t, x, ev(5, 0, 0, long...), api.ErrLong)
	wantAccept(t, x, ev(1, 0, 0, long...), api.ErrLong)
	wantAccept(t, x, ev(0, 0, 0, attr("", num(1))), api.ErrName)
	wantAccept(t, x, ev(0, 5, 0, attr("a", api.Value{})), api.ErrValue)
	wantAccept(t, x, ev(2, 7, 0), api.ErrEvent)
	wantAccept(t, x, ev(1, 0, 20), api.ErrClosed)
	wantAccept(t, x, ev(1, 7, 0), api.ErrClosed)
	wantAccept(t, x, ev(1, 1, 0), api.ErrClosed)
	wantAccept(t, x, ev(0, 0, 0), api.ErrSeq)
	wantAccept(t, x, ev(0, 2, 0), api.ErrSeq)
	wantAccept(t, x, ev(0, 1, 0), api.ErrStale)
}

func TestClose(t *testing.T) {
	for n := 1; n <= api.MaxSources; n++ {
		x := made(t, n)
		for _, i := range []int{-1, math.MinInt, n, n + 1, api.MaxSources, 1 << 32, math.MaxInt} {
			wantClose(t, x, i, api.ErrArg)
		}
		for i := range n {
			wantClose(t, x, i, api.OK)
			wantClose(t, x, i, api.ErrClosed)
			wantClose(t, x, n, api.ErrArg)
			for j := range n {
				if want := j <= i; x.Closed(j) != want || (x.Mark(j) == api.Forever) != want || x.Next(j) != 0 {
					t.Errorf("%d of %d closed: %d: %v, mark %d", i+1, n, j, x.Closed(j), x.Mark(j))
				}
			}
		}
		if x.Len() != 0 || x.Sources() != n {
			t.Errorf("Len %d, Sources %d", x.Len(), x.Sources())
		}
	}
	x := made(t, 2)
	wantAccept(t, x, ev(1, 0, 7), api.OK)
	wantClose(t, x, 1, api.OK)
	if x.Mark(1) != api.Forever || x.Next(1) != 1 || !x.Closed(1) || x.Mark(0) != 0 || x.Closed(0) || x.Len() != 1 {
		t.Errorf("%v", told(x))
	}
}

func TestNoSuchSource(t *testing.T) {
	x := made(t, 3)
	for i := range 3 {
		wantAccept(t, x, ev(i, 0, 9), api.OK)
	}
	wantClose(t, x, 2, api.OK)
	for _, i := range []int{-1, math.MinInt, 3, 4, api.MaxSources - 1, api.MaxSources, 1 << 32, 1<<32 + 1, math.MaxInt} {
		if x.Next(i) != 0 || x.Mark(i) != 0 || x.Closed(i) {
			t.Errorf("%d: %d %d %v", i, x.Next(i), x.Mark(i), x.Closed(i))
		}
	}
}

// As many events as streams accept, and no more.
func TestAcceptLong(t *testing.T) {
	x := made(t, 3)
	for i := range maxEvents {
		if err := x.Accept(ev(i%2, int64(i/2), int64(i))); err != api.OK {
			t.Fatalf("event %d: error %d", i, err)
		}
	}
	next := int64(maxEvents / 2)
	refuse := func(e api.Event, want api.Errno) {
		t.Helper()
		if err := x.Accept(e); err != want || x.Len() != maxEvents || x.Next(0) != next || x.Next(2) != 0 || x.Mark(0) != maxEvents-2 || x.Mark(2) != 0 {
			t.Errorf("%v: error %d, not %d", e, err, want)
		}
	}
	refuse(ev(0, next, api.MaxTime), api.ErrLong)
	refuse(ev(2, 0, 5), api.ErrLong)
	// it comes last
	refuse(ev(0, next+1, api.MaxTime), api.ErrSeq)
	refuse(ev(0, next, 0), api.ErrStale)
	refuse(ev(3, 0, 0), api.ErrEvent)
	refuse(ev(0, next, api.MaxTime, make([]api.Attr, 9)...), api.ErrLong)
	refuse(ev(0, next, api.MaxTime, attr("", num(1))), api.ErrName)
	y := x.Clone()
	wantOK := y.Close(1) == api.OK && y.Accept(ev(1, next, maxEvents)) == api.ErrClosed && y.Accept(ev(2, 0, 5)) == api.ErrLong
	if !wantOK || x.Closed(1) || y.Len() != maxEvents {
		t.Error("a clone of full streams")
	}
	n := 0
	for e := range x.All() {
		if !alike(e, ev(n%2, int64(n/2), int64(n))) {
			t.Fatalf("event %d: %v", n, e)
		}
		n++
	}
	if n != maxEvents {
		t.Errorf("%d events", n)
	}
}

// three is streams that have accepted three events, and these.
func three(t *testing.T) (*event.Streams, []api.Event) {
	t.Helper()
	x := made(t, 2)
	l := []api.Event{ev(1, 0, 7, attr("a", num(1))), ev(0, 0, 3, full()...), ev(1, 1, 7, attr("b", str("c")))}
	for _, e := range l {
		wantAccept(t, x, event.Clone(e), api.OK)
	}
	return x, l
}

func wantAll(t *testing.T, seq iter.Seq[api.Event], want []api.Event) {
	t.Helper()
	if got := listed(seq); !slices.EqualFunc(got, want, alike) {
		t.Errorf("%v, not %v", got, want)
	}
}

func TestAll(t *testing.T) {
	x, l := three(t)
	wantAll(t, x.All(), l) // as they were accepted: neither by sources nor by times
	seq := x.All()
	for n := range l {
		m := 0
		for e := range seq {
			if !alike(e, l[m]) {
				t.Errorf("event %d: %v", m, e)
			}
			if m == n {
				break
			}
			m++
		}
		if m != n {
			t.Errorf("stopped behind %d, not %d", m, n)
		}
	}
	wantAll(t, seq, l)
	wantAll(t, made(t, 1).All(), nil)
}

// R3: an iterator tells what was there when it was asked for.
func TestAllTellsWhatWasThere(t *testing.T) {
	x := made(t, 1)
	none := x.All()
	for n := range int64(40) {
		seq := x.All()
		wantAccept(t, x, ev(0, n, n), api.OK)
		if got := len(listed(seq)); got != int(n) {
			t.Errorf("%d events, not %d", got, n)
		}
	}
	seq := x.All()
	m := int64(0)
	for e := range seq {
		if err := x.Accept(ev(0, 40+m, 40+m)); err != api.OK || !alike(e, ev(0, m, m)) {
			t.Fatalf("event %d: %v, error %d", m, e, err)
		}
		m++
	}
	x.Close(0)
	if m != 40 || x.Len() != 80 || len(listed(seq)) != 40 || len(listed(x.All())) != 80 || len(listed(none)) != 0 {
		t.Errorf("%d, then %d, %d events", m, len(listed(seq)), len(listed(x.All())))
	}
}

// R3: what is accepted is not kept in a way that its owner sees, what is told is nobody else's.
func TestStreamsMemory(t *testing.T) {
	x := made(t, 1)
	room := append(full(), attr("behind", num(1)))
	e := ev(0, 0, 1, room[:8]...)
	wantAccept(t, x, e, api.OK)
	if room[8].Name != "behind" || !slices.Equal(e.Attrs, full()) {
		t.Error("what was handed in was written to")
	}
	e.Attrs[0] = attr("changed", num(9))
	e.Attrs[7].Value = str("changed")
	want := []api.Event{ev(0, 0, 1, full()...)}
	wantAll(t, x.All(), want)
	seq := x.All()
	for range 2 {
		for e := range seq {
			e.Attrs[0] = attr("changed", num(9))
			_ = append(e.Attrs[:2], room...)
		}
	}
	wantAll(t, seq, want)
	wantAll(t, x.All(), want)
	y := x.Clone()
	for e := range y.All() {
		e.Attrs[3] = api.Attr{}
	}
	wantAll(t, x.All(), want)
	wantAll(t, y.All(), want)
}

func TestStreamsClone(t *testing.T) {
	x, l := three(t)
	wantClose(t, x, 0, api.OK)
	before := told(x)
	y := x.Clone()
	if y == x || !told(y).same(before) {
		t.Fatalf("%v, not %v", told(y), before)
	}
	a, b := ev(1, 2, 8), ev(1, 2, 9, attr("z", num(1)))
	wantAccept(t, x, a, api.OK)
	if !told(y).same(before) {
		t.Errorf("the clone changed: %v, not %v", told(y), before)
	}
	wantAccept(t, y, b, api.OK)
	wantClose(t, y, 1, api.OK)
	wantAccept(t, y, ev(0, 1, 9), api.ErrClosed)
	wantAll(t, x.All(), append(slices.Clone(l), a))
	wantAll(t, y.All(), append(slices.Clone(l), b))
	if x.Closed(1) || x.Mark(1) != 8 || x.Next(1) != 3 || y.Mark(1) != api.Forever || y.Next(1) != 3 || x.Sources() != 2 || y.Sources() != 2 {
		t.Errorf("%v, %v", told(x), told(y))
	}
	// a clone of a clone, of streams that have said nothing
	z := made(t, 5).Clone().Clone()
	if !told(z).same(state{sources: 5}) {
		t.Errorf("%v", told(z))
	}
	wantAccept(t, z, ev(4, 0, 0), api.OK)
	wantAccept(t, z, ev(5, 0, 0), api.ErrEvent)
}

// R5
func TestStreamsNotMade(t *testing.T) {
	var zero event.Streams
	for _, x := range []*event.Streams{nil, &zero} {
		for _, e := range []api.Event{ev(0, 0, 0), {}, ev(0, 0, 0, make([]api.Attr, 9)...), ev(15, 1, 1)} {
			if err := x.Accept(e); err != api.ErrMade {
				t.Errorf("Accept: error %d", err)
			}
		}
		for _, i := range []int{0, 1, -1, 15, 16, math.MaxInt} {
			if err := x.Close(i); err != api.ErrMade {
				t.Errorf("Close(%d): error %d", i, err)
			}
			if x.Mark(i) != 0 || x.Next(i) != 0 || x.Closed(i) {
				t.Errorf("%d: %d %d %v", i, x.Mark(i), x.Next(i), x.Closed(i))
			}
		}
		if x.Len() != 0 || x.Sources() != 0 || x.Clone() != nil || x.All() == nil || len(listed(x.All())) != 0 {
			t.Error("an answer that is not the zero value")
		}
	}
}

// Events of all sorts, told as they came.
func TestAcceptAllSorts(t *testing.T) {
	x := made(t, api.MaxSources)
	var next [api.MaxSources]int64
	var want []api.Event
	for _, e := range ordinary() {
		e.ID.Seq, e.Time = next[e.ID.Source], next[e.ID.Source]/2
		next[e.ID.Source]++
		if err := x.Accept(e); err != api.OK {
			t.Fatalf("%#v: error %d", e, err)
		}
		want = append(want, e)
	}
	wantAll(t, x.All(), want)
	wantAll(t, x.Clone().All(), want)
}
