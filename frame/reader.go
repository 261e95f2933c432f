package frame

import (
	"eyrie/api"
	"eyrie/bits"
)

// reader takes things from a source. Behind its first error it takes no more, so that this one is what is told.
type reader struct {
	source *bits.Source
	err    api.Errno
}

// datagram takes a datagram, of which it looks no further than is needed to take it.
func (r *reader) datagram() api.Datagram {
	var d api.Datagram
	d.Kind = int(r.bits(kindBits))
	if r.err == api.OK && !isKind(d.Kind) {
		r.err = api.ErrFrame
	}
	d.From = int(r.bits(brokerBits))
	d.To = int(r.bits(brokerBits))
	d.Ack = r.count()
	if d.Kind == api.DgData {
		d.Seq = r.count()
		d.Body = r.body()
	}
	return d
}

// count takes a natural number. One that has no place in an int64 becomes one below 0, which Check refuses as it would refuse the number itself.
func (r *reader) count() int64 { return int64(r.nat()) }

// body takes bytes, and ahead of them how many they are.
func (r *reader) body() []byte {
	n := r.nat()
	if n > api.MaxBody {
		r.err = api.ErrFrame
		return nil
	}
	var l []byte
	for range n {
		c := byte(r.bits(byteBits))
		if r.err != api.OK {
			return nil
		}
		l = append(l, c)
	}
	return l
}

func (r *reader) bits(n int) uint64 {
	if r.err != api.OK {
		return 0
	}
	u, err := r.source.Bits(n)
	r.err = err
	return u
}

func (r *reader) nat() uint64 {
	if r.err != api.OK {
		return 0
	}
	u, err := r.source.Nat()
	r.err = err
	return u
}

// end asks that nothing is left but what fills the last byte.
func (r *reader) end() {
	if r.err == api.OK {
		r.err = r.source.End()
	}
}
