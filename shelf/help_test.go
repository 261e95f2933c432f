package shelf_test

import (
	"iter"
	"math"
	"math/rand/v2"
	"slices"
	"strconv"
	"testing"

	"eyrie/api"
	"eyrie/shelf"
)

// The chapter's numbers, written anew.
const (
	maxShelf = 1 << 14
	maxTime  = 1 << 40
)

// dice are the same at each run.
func dice() *rand.Rand { return rand.New(rand.NewPCG(130, 131)) }

func span(begin, end int64) api.Span { return api.Span{Begin: begin, End: end} }

func made(t *testing.T, most int) *shelf.Shelf[string] {
	t.Helper()
	s, err := shelf.New[string](most)
	if err != api.OK || s == nil {
		t.Fatalf("New(%d): error %d", most, err)
	}
	return s
}

// thing is something with its span.
type thing struct {
	x api.Span
	v string
}

// model is a shelf by the chapter's words: how many there may be, and what is there.
type model struct {
	most   int
	things []thing
}

func (m model) put(x api.Span, v string) (model, api.Errno) {
	if x.Begin < 0 || x.Begin > maxTime || x.End < x.Begin || x.End > maxTime {
		return m, api.ErrArg
	}
	if len(m.things) == m.most {
		return m, api.ErrFull
	}
	m.things = append(slices.Clone(m.things), thing{x, v})
	return m, api.OK
}

// less is m without those of which gone says true, and how many those are.
func (m model) less(gone func(thing) bool) (model, int) {
	n := model{most: m.most}
	for _, o := range m.things {
		if !gone(o) {
			n.things = append(n.things, o)
		}
	}
	return n, len(m.things) - len(n.things)
}

func (m model) clear(horizon int64) (model, int) {
	return m.less(func(o thing) bool { return o.x.Begin < horizon })
}

func (m model) oldest() (int64, bool) {
	var begins []int64
	for _, o := range m.things {
		begins = append(begins, o.x.Begin)
	}
	if begins == nil {
		return 0, false
	}
	return slices.Sorted(slices.Values(begins))[0], true
}

// values are those of the things of which is says true.
func (m model) values(is func(thing) bool) []string {
	var l []string
	for _, o := range m.things {
		if is(o) {
			l = append(l, o.v)
		}
	}
	return l
}

func (m model) ending(below int64) []string {
	return m.values(func(o thing) bool { return o.x.End < below })
}

func (m model) beginning(above int64) []string {
	return m.values(func(o thing) bool { return o.x.Begin > above })
}

// edges are times, and what is none, with those at which m's things begin and end.
func (m model) edges() []int64 {
	l := []int64{0, 1, -1, maxTime - 1, maxTime, maxTime + 1, math.MinInt64, math.MaxInt64}
	for _, o := range m.things {
		l = append(l, o.x.Begin-1, o.x.Begin, o.x.Begin+1, o.x.End-1, o.x.End, o.x.End+1)
	}
	slices.Sort(l)
	return slices.Compact(l)
}

// filled is a shelf of this kind, and what should be on it.
func filled(t *testing.T, most int, l ...thing) (*shelf.Shelf[string], model) {
	t.Helper()
	s, m := made(t, most), model{most: most}
	for _, o := range l {
		m = wantPut(t, s, m, o.x, o.v)
	}
	if len(m.things) != len(l) {
		t.Fatalf("%d of %d things are there", len(m.things), len(l))
	}
	return s, m
}

// several are things of which some are alike in their spans, their values, or both.
func several() []thing {
	return []thing{{span(3, 5), "a"}, {span(1, 9), "b"}, {span(3, 5), "a"}, {span(3, 3), "c"}, {span(0, 0), ""}, {span(4, 9), "a"},
		{span(0, maxTime), "d"}, {span(maxTime, maxTime), "e"}, {span(3, 5), "f"}, {span(2, 4), "b"}}
}

// few are so many things as they come.
func few(r *rand.Rand, n int) []thing {
	l := make([]thing, n)
	for i := range l {
		l[i] = thing{someSpan(r), strconv.Itoa(r.IntN(2 * n))}
	}
	return l
}

// someSpan is mostly one of small times.
func someSpan(r *rand.Rand) api.Span {
	begin := r.Int64N(12)
	if r.IntN(10) == 0 {
		begin = r.Int64N(maxTime + 1)
	}
	return span(begin, min(begin+r.Int64N(8), maxTime))
}

// listed are the things of an iterator.
func listed(l iter.Seq2[api.Span, string]) []thing {
	var out []thing
	for x, v := range l {
		out = append(out, thing{x, v})
	}
	return out
}

func wantPut(t *testing.T, s *shelf.Shelf[string], m model, x api.Span, v string) model {
	t.Helper()
	n, want := m.put(x, v)
	if err := s.Put(x, v); err != want {
		t.Fatalf("Put(%v, %q): error %d, not %d", x, v, err, want)
	}
	return n
}

func wantClear(t *testing.T, s *shelf.Shelf[string], m model, horizon int64) model {
	t.Helper()
	n, want := m.clear(horizon)
	if gone := s.Clear(horizon); gone != want {
		t.Fatalf("%v: Clear(%d): %d, not %d", m, horizon, gone, want)
	}
	return n
}

// wantTake takes those of which is says true; each thing should be asked for once, in order.
func wantTake(t *testing.T, s *shelf.Shelf[string], m model, is func(thing) bool) model {
	t.Helper()
	var asked []thing
	n, want := m.less(is)
	gone := s.Take(func(x api.Span, v string) bool {
		asked = append(asked, thing{x, v})
		return is(thing{x, v})
	})
	if gone != want || !slices.Equal(asked, m.things) {
		t.Fatalf("%v: Take: %d, not %d; asked %v", m, gone, want, asked)
	}
	return n
}

// wantShelf asks for all that the chapter tells of a shelf with these things.
func wantShelf(t *testing.T, s *shelf.Shelf[string], m model) {
	t.Helper()
	if s.Len() != len(m.things) || s.Most() != m.most {
		t.Fatalf("%v: Len %d, Most %d", m, s.Len(), s.Most())
	}
	want, there := m.oldest()
	if oldest, ok := s.Oldest(); oldest != want || ok != there {
		t.Fatalf("%v: Oldest %d, %v", m, oldest, ok)
	}
	if got := listed(s.All()); !slices.Equal(got, m.things) {
		t.Fatalf("%v: All %v", m, got)
	}
	for _, at := range m.edges() {
		if got := slices.Collect(s.Ending(at)); !slices.Equal(got, m.ending(at)) {
			t.Fatalf("%v: Ending(%d) %q", m, at, got)
		}
		if got := slices.Collect(s.Beginning(at)); !slices.Equal(got, m.beginning(at)) {
			t.Fatalf("%v: Beginning(%d) %q", m, at, got)
		}
	}
}
