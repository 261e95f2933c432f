package bits

import (
	"bytes"

	"eyrie/api"
)

// Source is bits that are taken, one behind the other.
type Source struct {
	made bool
	b    []byte
	at   int // how many bits were taken
}

// NewSource is a source that stands ahead of the first bit of b.
func NewSource(b []byte) *Source { return &Source{made: true, b: bytes.Clone(b)} }

// Bits takes the number of the next n bits.
func (s *Source) Bits(n int) (uint64, api.Errno) {
	if !s.isMade() {
		return 0, api.ErrMade
	}
	if n < 0 || n > 64 {
		return 0, api.ErrArg
	}
	if n > s.Left() {
		return 0, api.ErrEnds
	}
	return s.take(n), api.OK
}

// Nat takes a natural number.
func (s *Source) Nat() (uint64, api.Errno) {
	if !s.isMade() {
		return 0, api.ErrMade
	}
	k := s.zeros()
	if k > 64 {
		return 0, api.ErrCode
	}
	if s.Left() < 2*k+1 {
		return 0, api.ErrEnds
	}
	low := s.peek(s.at+k+1, k)
	if k == 64 && low != 0 { // u + 1 is above 2^64
		return 0, api.ErrCode
	}
	s.at += 2*k + 1
	// of k = 64 the shift answers 0, and 0 less 1 wraps round to 2^64 - 1, as it should
	return uint64(1)<<k + low - 1, api.OK
}

// Num takes a number.
func (s *Source) Num() (int64, api.Errno) {
	u, err := s.Nat()
	if err != api.OK {
		return 0, err
	}
	return unfold(u), api.OK
}

// Text takes a text: all of it, or nothing.
func (s *Source) Text() (string, api.Errno) {
	if !s.isMade() {
		return "", api.ErrMade
	}
	start := s.at
	n, err := s.Nat()
	if err != api.OK {
		return "", err
	}
	if n > uint64(s.Left()/8) {
		s.at = start
		return "", api.ErrEnds
	}
	t := make([]byte, n)
	for i := range t {
		t[i] = byte(s.take(8))
	}
	return string(t), api.OK
}

// Flag takes a flag.
func (s *Source) Flag() (bool, api.Errno) {
	u, err := s.Bits(1)
	return u == 1, err
}

// Left is how many bits are left.
func (s *Source) Left() int {
	if !s.isMade() {
		return 0
	}
	return 8*len(s.b) - s.at
}

// End tells whether nothing is left but what fills a byte.
func (s *Source) End() api.Errno {
	if !s.isMade() {
		return api.ErrMade
	}
	if left := s.Left(); left >= 8 || s.peek(s.at, left) != 0 {
		return api.ErrMore
	}
	return api.OK
}

func (s *Source) isMade() bool { return s != nil && s.made }

// zeros is how many bits 0 come next, 65 at most: more of them say nothing.
func (s *Source) zeros() int {
	most := min(s.Left(), 65)
	for i := range most {
		if s.peek(s.at+i, 1) == 1 {
			return i
		}
	}
	return most
}

// take takes the number of the next n bits, which are there.
func (s *Source) take(n int) uint64 {
	u := s.peek(s.at, n)
	s.at += n
	return u
}

// peek is the number of the n bits behind the first at ones, which are there.
func (s *Source) peek(at, n int) uint64 {
	var u uint64
	for i := range n {
		b := s.b[(at+i)/8] >> (7 - (at+i)%8) & 1
		u = u<<1 | uint64(b)
	}
	return u
}
