package bits

import "eyrie/api"

// Sink is bits that were put, one behind the other.
type Sink struct {
	made bool
	full []byte // the bytes that have all their bits
	rest byte   // the bits behind these, in its lowest places
	n    int    // how many bits there are
}

// NewSink is a sink without bits.
func NewSink() *Sink { return &Sink{made: true} }

// Bits puts the number u in n bits.
func (s *Sink) Bits(u uint64, n int) api.Errno {
	if !s.isMade() {
		return api.ErrMade
	}
	if n < 0 || n > 64 || u>>n != 0 {
		return api.ErrArg
	}
	if !s.hasRoom(n) {
		return api.ErrLong
	}
	s.put(u, n)
	return api.OK
}

// Nat puts a natural number.
func (s *Sink) Nat(u uint64) api.Errno {
	if !s.isMade() {
		return api.ErrMade
	}
	if !s.hasRoom(Size(u)) {
		return api.ErrLong
	}
	s.putNat(u)
	return api.OK
}

// Num puts a number.
func (s *Sink) Num(n int64) api.Errno { return s.Nat(fold(n)) }

// Text puts a text: all of it, or nothing.
func (s *Sink) Text(t string) api.Errno {
	if !s.isMade() {
		return api.ErrMade
	}
	// how long t is comes first: its bits may be too many for an int of 32 bits
	if len(t) > api.MaxBits/8 || !s.hasRoom(Size(uint64(len(t)))+8*len(t)) {
		return api.ErrLong
	}
	s.putNat(uint64(len(t)))
	for i := range len(t) {
		s.put(uint64(t[i]), 8)
	}
	return api.OK
}

// Flags puts flags: all of them, or none.
func (s *Sink) Flags(l ...bool) api.Errno {
	if !s.isMade() {
		return api.ErrMade
	}
	if !s.hasRoom(len(l)) {
		return api.ErrLong
	}
	for _, f := range l {
		if f {
			s.put(1, 1)
		} else {
			s.put(0, 1)
		}
	}
	return api.OK
}

// Len is how many bits there are.
func (s *Sink) Len() int {
	if !s.isMade() {
		return 0
	}
	return s.n
}

// Out is the bits as bytes, the first one the highest.
func (s *Sink) Out() []byte {
	if !s.isMade() {
		return nil
	}
	out := make([]byte, 0, len(s.full)+1)
	out = append(out, s.full...)
	if k := s.n % 8; k > 0 {
		out = append(out, s.rest<<(8-k))
	}
	return out
}

func (s *Sink) isMade() bool { return s != nil && s.made }

// hasRoom tells whether n more bits have place.
func (s *Sink) hasRoom(n int) bool { return n <= api.MaxBits-s.n }

// putNat puts a natural number that has place.
func (s *Sink) putNat(u uint64) {
	k := ahead(u)
	s.put(0, k)
	s.put(1, 1)
	// the lowest k bits of u + 1; they are right of 2^64, too, which wraps round to 0
	s.put(u+1, k)
}

// put puts the lowest n bits of u, which have place, the highest one first.
func (s *Sink) put(u uint64, n int) {
	for i := range n {
		s.rest = s.rest<<1 | byte(u>>(n-1-i)&1)
		s.n++
		if s.n%8 == 0 {
			s.full = append(s.full, s.rest)
			s.rest = 0
		}
	}
}
