package event

import (
	"eyrie/api"
	"eyrie/bits"
)

const (
	sourceBits = 4
	manyBits   = 4
	kindBits   = 2
)

// Put puts an event to a sink: all of it, or nothing.
func Put(s *bits.Sink, e api.Event) api.Errno {
	// no bit always has place, so that this asks alone whether the sink was made
	if err := s.Bits(0, 0); err != api.OK {
		return err
	}
	if err := Check(e); err != api.OK {
		return err
	}
	if size(e) > api.MaxBits-s.Len() {
		return api.ErrLong
	}
	put(s, e)
	return api.OK
}

// size is how many bits an event has that may be.
func size(e api.Event) int {
	s := bits.NewSink()
	put(s, e)
	return s.Len()
}

// put puts the bits of an event that may be to a sink that has room for them, so that its errors say nothing here.
func put(s *bits.Sink, e api.Event) {
	s.Bits(uint64(e.ID.Source), sourceBits)
	s.Nat(uint64(e.ID.Seq))
	s.Nat(uint64(e.Time))
	s.Text(e.Type)
	s.Bits(uint64(len(e.Attrs)), manyBits)
	for _, a := range e.Attrs {
		putAttr(s, a)
	}
}

func putAttr(s *bits.Sink, a api.Attr) {
	s.Text(a.Name)
	s.Bits(uint64(a.Value.Kind), kindBits)
	if a.Value.Kind == api.VInt {
		s.Num(a.Value.N)
	} else {
		s.Text(a.Value.S)
	}
}

// Take takes an event from a source: all of it, or nothing.
func Take(s *bits.Source) (api.Event, api.Errno) {
	// no bit is always there, so that this asks alone whether the source was made
	if _, err := s.Bits(0); err != api.OK {
		return api.Event{}, err
	}
	// a source cannot be set back: it is a copy of it that reads ahead, and it follows when all is well
	r := &reader{source: *s}
	e := r.event()
	if r.err != api.OK {
		return api.Event{}, r.err
	}
	if err := Check(e); err != api.OK {
		return api.Event{}, err
	}
	*s = r.source
	return e, api.OK
}

// Bytes is an event as bytes.
func Bytes(e api.Event) ([]byte, api.Errno) {
	s := bits.NewSink()
	if err := Put(s, e); err != api.OK {
		return nil, err
	}
	return s.Out(), api.OK
}

// Parse is an event of bytes.
func Parse(b []byte) (api.Event, api.Errno) {
	s := bits.NewSource(b)
	e, err := Take(s)
	if err != api.OK {
		return api.Event{}, err
	}
	if err := s.End(); err != api.OK {
		return api.Event{}, err
	}
	return e, api.OK
}
