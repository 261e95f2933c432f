package frame

import (
	"eyrie/api"
	"eyrie/bits"
)

const (
	kindBits   = 2
	brokerBits = 4
	byteBits   = 8

	// an ack of 0 is the shortest datagram: its bits have place in two bytes
	leastBytes = 2 + sumBytes
)

// Encode is a datagram as bytes.
func Encode(d api.Datagram) ([]byte, api.Errno) {
	if err := Check(d); err != api.OK {
		return nil, err
	}
	s := bits.NewSink()
	put(s, d)
	out := s.Out()
	sum := Sum(out)
	return append(out, byte(sum>>24), byte(sum>>16), byte(sum>>8), byte(sum)), api.OK
}

// put puts the bits of a datagram that may be: the sink has room for the longest one, so that its errors say nothing here.
func put(s *bits.Sink, d api.Datagram) {
	s.Bits(uint64(d.Kind), kindBits)
	s.Bits(uint64(d.From), brokerBits)
	s.Bits(uint64(d.To), brokerBits)
	s.Nat(uint64(d.Ack))
	if d.Kind == api.DgData {
		s.Nat(uint64(d.Seq))
		s.Nat(uint64(len(d.Body)))
		for _, c := range d.Body {
			s.Bits(uint64(c), byteBits)
		}
	}
}

// Size is how many bytes a datagram has, 0 if it may not be.
func Size(d api.Datagram) int {
	if Check(d) != api.OK {
		return 0
	}
	n := kindBits + 2*brokerBits + bits.Size(uint64(d.Ack))
	if d.Kind == api.DgData {
		n += bits.Size(uint64(d.Seq)) + bits.Size(uint64(len(d.Body))) + byteBits*len(d.Body)
	}
	return (n+byteBits-1)/byteBits + sumBytes
}

// Decode is a datagram of bytes.
func Decode(b []byte) (api.Datagram, api.Errno) {
	d, err := open(b)
	if err != api.OK {
		return api.Datagram{}, err
	}
	if err := Check(d); err != api.OK {
		return api.Datagram{}, err
	}
	return d, api.OK
}

// open is what bytes say that have their sum at their end.
func open(b []byte) (api.Datagram, api.Errno) {
	if len(b) < leastBytes {
		return api.Datagram{}, api.ErrEnds
	}
	told, sum := b[:len(b)-sumBytes], b[len(b)-sumBytes:]
	if Sum(told) != number(sum) {
		return api.Datagram{}, api.ErrSum
	}
	r := &reader{source: bits.NewSource(told)}
	d := r.datagram()
	r.end()
	return d, r.err
}

// number is the number that a sum's bytes say.
func number(sum []byte) uint32 {
	var u uint32
	for _, c := range sum {
		u = u<<8 | uint32(c)
	}
	return u
}
