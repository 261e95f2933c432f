package frame_test

import (
	"bytes"
	"math/rand/v2"
	"testing"

	"eyrie/api"
	"eyrie/frame"
)

// P2.5

func TestThereAndBack(t *testing.T) {
	r := dice()
	l := ordinary()
	for range 3000 {
		l = append(l, some(r))
	}
	for _, d := range l {
		o, err := frame.Decode(encoded(t, d))
		if err != api.OK || !frame.Same(d, o) || !alike(d, o) {
			t.Errorf("%s: %s, error %d", shown(d), shown(o), err)
		}
	}
}

// back asks, of any bytes, that what they are decoded as may be and is encoded as just these; it tells whether they are decoded.
func back(t *testing.T, b []byte) bool {
	t.Helper()
	d, err := frame.Decode(b)
	if err != api.OK {
		if !none(d) {
			t.Errorf("%x: %s beside error %d", b, shown(d), err)
		}
		return false
	}
	if frame.Check(d) != api.OK || frame.Size(d) != len(b) {
		t.Errorf("%x: %s, which may not be or has another size", b, shown(d))
	}
	if o, err := frame.Encode(d); err != api.OK || !bytes.Equal(o, b) {
		t.Errorf("%x: encoded as %x, error %d", b, o, err)
	}
	return true
}

// changed is a datagram's form with some changes, the right sum behind it.
func changed(t *testing.T, r *rand.Rand, d api.Datagram) []byte {
	b := encoded(t, d)
	b = b[:len(b)-4]
	for range r.IntN(4) {
		switch r.IntN(4) {
		case 0:
			b[r.IntN(len(b))] ^= 1 << r.IntN(8)
		case 1:
			b[r.IntN(len(b))] = byte(r.Uint32())
		case 2:
			b = append(b, noise(r, r.IntN(3))...)
		case 3:
			b = b[:max(2, len(b)-r.IntN(3))]
		}
	}
	return summed(b)
}

func TestAnyBytes(t *testing.T) {
	r, n := dice(), 0
	for range 30000 {
		if back(t, changed(t, r, some(r))) {
			n++
		}
		if back(t, summed(noise(r, r.IntN(12)))) {
			n++
		}
		back(t, noise(r, r.IntN(20)))
	}
	if n < 5000 {
		t.Errorf("only %d were decoded", n)
	}
	// all that two bytes can say
	for c := range 1 << 16 {
		back(t, summed([]byte{byte(c >> 8), byte(c)}))
	}
}

// P2.6

func TestOneBitTurned(t *testing.T) {
	for _, d := range ordinary() {
		b := encoded(t, d)
		step := 1
		if len(b) > 1000 { // of a long one not each bit, but some of each stretch, and at each place of a byte
			step = 731
		}
		for i := 0; i < 8*len(b); i += step {
			b[i/8] ^= 0x80 >> (i % 8)
			reject(t, b, api.ErrSum, "a bit turned")
			b[i/8] ^= 0x80 >> (i % 8)
		}
	}
}

// spoil turns, from the bit at on, those of the n next ones that are 1 in the lowest bits of turn.
func spoil(b []byte, at, n int, turn uint64) {
	for i := range n {
		if turn>>i&1 == 1 {
			b[(at+i)/8] ^= 0x80 >> ((at + i) % 8)
		}
	}
}

func TestBitsInARowChanged(t *testing.T) {
	r := dice()
	for _, d := range []api.Datagram{ack(0, 1, 0), ack(9, 4, 77), data(1, 2, 3, 4, ""), data(1, 2, 300, 4, "a body"),
		data(15, 14, api.MaxTime, api.MaxTime, string(noise(r, 60)))} {
		b := encoded(t, d)
		whole := bytes.Clone(b)
		for n := 1; n <= 32; n++ {
			for at := 0; at+n <= 8*len(b); at++ {
				all := uint64(1)<<n - 1
				for _, turn := range []uint64{all, 1 | 1<<(n-1), r.Uint64()&all | 1, r.Uint64()&all | 1} {
					spoil(b, at, n, turn)
					reject(t, b, api.ErrSum, "bits in a row changed")
					spoil(b, at, n, turn)
				}
				for _, with := range []uint64{0, all} { // all of them to 0, all of them to 1
					turn := with ^ rowOf(b, at, n)
					if turn == 0 {
						continue
					}
					spoil(b, at, n, turn)
					reject(t, b, api.ErrSum, "bits in a row set")
					spoil(b, at, n, turn)
				}
			}
		}
		if !bytes.Equal(b, whole) || !back(t, b) {
			t.Fatal("the bytes are not what they were")
		}
	}
}

// rowOf is the n bits from the bit at on, the first one the lowest.
func rowOf(b []byte, at, n int) uint64 {
	var u uint64
	for i := range n {
		bit := b[(at+i)/8] >> (7 - (at+i)%8) & 1
		u |= uint64(bit) << i
	}
	return u
}

// R1: any bytes end with an answer.
func FuzzDecode(f *testing.F) {
	for _, d := range ordinary()[:12] {
		if b, err := frame.Encode(d); err == api.OK {
			f.Add(b)
		}
	}
	f.Fuzz(func(t *testing.T, b []byte) {
		back(t, b)
		back(t, summed(b))
	})
}
