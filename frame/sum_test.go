package frame_test

import (
	"bytes"
	"testing"

	"eyrie/frame"
)

// P2.4

func TestSumExamples(t *testing.T) {
	if s := frame.Sum([]byte("123456789")); s != 0xfc891918 {
		t.Errorf("the example: %x", s)
	}
	// of nothing all bits of FFFFFFFF are turned
	for _, l := range [][][]byte{nil, {}, {nil}, {{}}, {nil, {}, nil}} {
		if s := frame.Sum(l...); s != 0 {
			t.Errorf("Sum of %d empty lists: %x", len(l), s)
		}
	}
}

// worked is the sum as the chapter's words say it, by whole numbers without wrap-round.
func worked(b []byte) uint32 {
	s := uint64(0xffffffff)
	for _, c := range b {
		s ^= uint64(c) * 16777216
		for i := 0; i < 8; i++ {
			high := s >= 2147483648
			s = s * 2 % 4294967296
			if high {
				s ^= 0x04c11db7
			}
		}
	}
	return uint32(4294967295 - s)
}

func TestSum(t *testing.T) {
	r := dice()
	for n := range 600 {
		b := noise(r, n)
		s := frame.Sum(b)
		if s != worked(b) || s != crc(b) {
			t.Fatalf("%x: %x, not %x", b, s, worked(b))
		}
		if frame.Sum(b) != s {
			t.Fatal("another one at the second call")
		}
	}
	for c := range 256 {
		for _, b := range [][]byte{{byte(c)}, {0, byte(c)}, {byte(c), 0}, {0xff, byte(c)}, make([]byte, c)} {
			if s := frame.Sum(b); s != worked(b) {
				t.Fatalf("%x: %x, not %x", b, s, worked(b))
			}
		}
	}
}

// The same bytes, cut anywhere, have the same sum.
func TestSumOfLists(t *testing.T) {
	r := dice()
	b := []byte("123456789")
	for i := range len(b) + 1 {
		for j := i; j <= len(b); j++ {
			if s := frame.Sum(b[:i], b[i:j], b[j:]); s != 0xfc891918 {
				t.Fatalf("cut at %d and %d: %x", i, j, s)
			}
			if s := frame.Sum(nil, b[:i], []byte{}, b[i:j], b[j:], nil); s != 0xfc891918 {
				t.Fatalf("cut at %d and %d, with empty lists: %x", i, j, s)
			}
		}
	}
	for range 500 {
		b := noise(r, r.IntN(100))
		var l [][]byte
		for rest := b; len(rest) > 0; {
			n := r.IntN(len(rest) + 1)
			l = append(l, rest[:n])
			rest = rest[n:]
		}
		if frame.Sum(l...) != frame.Sum(b) {
			t.Fatalf("%x as %x", b, l)
		}
	}
	// the order of the lists counts
	if frame.Sum([]byte("a"), []byte("b")) == frame.Sum([]byte("b"), []byte("a")) {
		t.Error("lists in another order")
	}
}

// R3
func TestSumMemory(t *testing.T) {
	a, b := []byte("one"), []byte("two")
	l := [][]byte{a[:2], b}
	frame.Sum(l...)
	if string(a) != "one" || string(b) != "two" || !bytes.Equal(l[0], []byte("on")) || !bytes.Equal(l[1], b) {
		t.Errorf("written to: %q %q %q", a, b, l)
	}
}
