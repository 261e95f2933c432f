package match

import (
	"eyrie/api"
	"eyrie/bits"
	"eyrie/event"
)

// manyBits is in how many bits the number of bounds is told.
const manyBits = 4

// Put puts a partial match to a sink: all of it, or nothing.
func Put(s *bits.Sink, p api.Partial) api.Errno {
	// no bit always has place, so that this asks alone whether the sink was made
	if err := s.Bits(0, 0); err != api.OK {
		return err
	}
	if err := Check(p); err != api.OK {
		return err
	}
	if size(p) > api.MaxBits-s.Len() {
		return api.ErrLong
	}
	put(s, p)
	return api.OK
}

// size is how many bits a partial match has that may be.
func size(p api.Partial) int {
	s := bits.NewSink()
	put(s, p)
	return s.Len()
}

// put puts the bits of a partial match that may be to a sink that has room for them, so that its errors say nothing here.
func put(s *bits.Sink, p api.Partial) {
	s.Bits(uint64(len(p.Bounds)), manyBits)
	for _, b := range p.Bounds {
		s.Text(b.Var)
		event.Put(s, b.Event)
	}
}

// Take takes a partial match from a source: all of it, or nothing.
func Take(s *bits.Source) (api.Partial, api.Errno) {
	// no bit is always there, so that this asks alone whether the source was made
	if _, err := s.Bits(0); err != api.OK {
		return api.Partial{}, err
	}
	// a source cannot be set back: it is a copy of it that reads ahead, and it follows when all is well
	ahead := *s
	p, err := take(&ahead)
	if err != api.OK {
		return api.Partial{}, err
	}
	if err := Check(p); err != api.OK {
		return api.Partial{}, err
	}
	*s = ahead
	return p, api.OK
}

// take takes a partial match, of which it looks no further than is needed to take it.
func take(s *bits.Source) (api.Partial, api.Errno) {
	many, err := s.Bits(manyBits)
	if err != api.OK {
		return api.Partial{}, err
	}
	if many > api.MaxTerms {
		return api.Partial{}, api.ErrPartial
	}
	var p api.Partial
	for range many {
		b, err := takeBound(s)
		if err != api.OK {
			return api.Partial{}, err
		}
		p.Bounds = append(p.Bounds, b)
	}
	return p, api.OK
}

func takeBound(s *bits.Source) (api.Bound, api.Errno) {
	name, err := s.Text()
	if err != api.OK {
		return api.Bound{}, err
	}
	e, err := event.Take(s)
	if err != api.OK {
		return api.Bound{}, err
	}
	return api.Bound{Var: name, Event: e}, api.OK
}

// Bytes is a partial match as bytes.
func Bytes(p api.Partial) ([]byte, api.Errno) {
	s := bits.NewSink()
	if err := Put(s, p); err != api.OK {
		return nil, err
	}
	return s.Out(), api.OK
}

// Parse is a partial match of bytes.
func Parse(b []byte) (api.Partial, api.Errno) {
	s := bits.NewSource(b)
	p, err := Take(s)
	if err != api.OK {
		return api.Partial{}, err
	}
	if err := s.End(); err != api.OK {
		return api.Partial{}, err
	}
	return p, api.OK
}
