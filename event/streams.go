package event

import (
	"iter"
	"slices"

	"eyrie/api"
)

// maxEvents is how many events streams accept.
const maxEvents = 1 << 16

// said is what a source has said so far.
type said struct {
	many   int64 // how many events
	last   int64 // the time of the last one
	closed bool
}

// Streams is what sources have said so far.
type Streams struct {
	sources int // 0: no call made these streams
	said    [api.MaxSources]said
	events  []api.Event // those that were accepted, in that order; none of them is changed any more
}

// New is sources that have said nothing.
func New(sources int) (*Streams, api.Errno) {
	if sources < 1 || sources > api.MaxSources {
		return nil, api.ErrArg
	}
	return &Streams{sources: sources}, api.OK
}

// Accept takes a source's next event.
func (x *Streams) Accept(e api.Event) api.Errno {
	if !x.isMade() {
		return api.ErrMade
	}
	if err := Check(e); err != api.OK {
		return err
	}
	if !x.has(e.ID.Source) {
		return api.ErrEvent
	}
	s := &x.said[e.ID.Source]
	if err := s.next(e); err != api.OK {
		return err
	}
	if len(x.events) >= maxEvents {
		return api.ErrLong
	}
	s.many++
	s.last = e.Time
	x.events = append(x.events, Clone(e))
	return api.OK
}

// next tells whether an event may be what a source says next.
func (s said) next(e api.Event) api.Errno {
	switch {
	case s.closed:
		return api.ErrClosed
	case e.ID.Seq != s.many:
		return api.ErrSeq
	case e.Time < s.last:
		return api.ErrStale
	}
	return api.OK
}

// Close closes a source.
func (x *Streams) Close(source int) api.Errno {
	switch {
	case !x.isMade():
		return api.ErrMade
	case !x.has(source):
		return api.ErrArg
	case x.said[source].closed:
		return api.ErrClosed
	}
	x.said[source].closed = true
	return api.OK
}

// Mark is the time below which a source says nothing any more.
func (x *Streams) Mark(source int) int64 {
	s := x.of(source)
	if s.closed {
		return api.Forever
	}
	return s.last
}

// Next is the number of a source's next event.
func (x *Streams) Next(source int) int64 { return x.of(source).many }

// Closed tells whether a source is closed.
func (x *Streams) Closed(source int) bool { return x.of(source).closed }

// All goes through the events that were accepted so far, in the order in which they were.
func (x *Streams) All() iter.Seq[api.Event] {
	if !x.isMade() {
		return func(func(api.Event) bool) {}
	}
	return clones(slices.Values(x.events))
}

// clones goes through events, each in memory of its own.
func clones(events iter.Seq[api.Event]) iter.Seq[api.Event] {
	return func(yield func(api.Event) bool) {
		for e := range events {
			if !yield(Clone(e)) {
				return
			}
		}
	}
}

// Len is how many events were accepted.
func (x *Streams) Len() int {
	if !x.isMade() {
		return 0
	}
	return len(x.events)
}

// Sources is how many sources there are.
func (x *Streams) Sources() int {
	if !x.isMade() {
		return 0
	}
	return x.sources
}

// Clone is the same streams, going their own way.
func (x *Streams) Clone() *Streams {
	if !x.isMade() {
		return nil
	}
	return &Streams{sources: x.sources, said: x.said, events: slices.Collect(x.All())}
}

func (x *Streams) isMade() bool { return x != nil && x.sources > 0 }

// has tells whether streams that a call made have that source.
func (x *Streams) has(source int) bool { return source >= 0 && source < x.sources }

// of is what a source has said: nothing, if there is no such source.
func (x *Streams) of(source int) said {
	if !x.isMade() || !x.has(source) {
		return said{}
	}
	return x.said[source]
}
