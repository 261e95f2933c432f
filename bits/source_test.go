package bits_test

import (
	"bytes"
	"math"
	"math/big"
	"strings"
	"testing"

	"eyrie/api"
	"eyrie/bits"
)

// P1.2

func zeros(n int) string { return strings.Repeat("0", n) }

func TestSourceBits(t *testing.T) {
	s := bits.NewSource([]byte{0xa5, 0x0f, 0xff})
	for _, c := range []struct {
		n    int
		want uint64
		left int
	}{{0, 0, 24}, {1, 1, 23}, {3, 2, 20}, {8, 0x50, 12}, {12, 0xfff, 0}, {0, 0, 0}} {
		if u, err := s.Bits(c.n); u != c.want || err != api.OK || s.Left() != c.left {
			t.Fatalf("Bits(%d): %d, error %d, Left %d", c.n, u, err, s.Left())
		}
	}
	for n := range 65 {
		for _, u := range []uint64{0, uint64(1)<<n - 1, (uint64(1)<<n - 1) / 3} {
			s := sourceOf(t, wide(u, n)+"1")
			if got, err := s.Bits(n); got != u || err != api.OK || s.Left() != 1 {
				t.Errorf("Bits(%d): %d, not %d; error %d, Left %d", n, got, u, err, s.Left())
			}
		}
	}
}

func TestSourceBitsRefused(t *testing.T) {
	for _, text := range []string{"", "1", "1011", zeros(63), zeros(64) + "101"} {
		for _, n := range []int{-1, 65, math.MinInt, math.MaxInt, 1000} { // ErrArg also where the bits are not there
			s := sourceOf(t, text)
			if u, err := s.Bits(n); u != 0 || err != api.ErrArg || rest(t, s) != text {
				t.Errorf("Bits(%d) of %q: %d, error %d", n, text, u, err)
			}
		}
		for n := len(text) + 1; n <= 64; n++ {
			s := sourceOf(t, text)
			if u, err := s.Bits(n); u != 0 || err != api.ErrEnds || rest(t, s) != text {
				t.Errorf("Bits(%d) of %q: %d, error %d", n, text, u, err)
			}
		}
	}
}

func TestSourceNat(t *testing.T) {
	for _, u := range edges() {
		for _, behind := range []string{"", "0", "1", zeros(70)} {
			s := sourceOf(t, natCode(u)+behind)
			if got, err := s.Nat(); got != u || err != api.OK || rest(t, s) != behind {
				t.Errorf("Nat of %d: %d, error %d", u, got, err)
			}
		}
	}
}

// refusedNats are bits that say no natural number, and the errors that they ask for.
func refusedNats() map[string]api.Errno {
	l := map[string]api.Errno{
		"":                                   api.ErrEnds,
		zeros(64):                            api.ErrEnds,
		zeros(65):                            api.ErrCode,
		zeros(66):                            api.ErrCode,
		zeros(200):                           api.ErrCode,
		zeros(65) + "1":                      api.ErrCode,
		zeros(65) + strings.Repeat("1", 100): api.ErrCode,
		// 2^64, which is one more than the greatest, and others above it
		zeros(64) + "1" + zeros(63) + "1":            api.ErrCode,
		zeros(64) + "11" + zeros(63):                 api.ErrCode,
		zeros(64) + "1" + strings.Repeat("1", 64):    api.ErrCode,
		zeros(64) + "1" + zeros(63) + "1" + zeros(9): api.ErrCode,
		// that the bits are not there comes ahead of what they would say
		zeros(64) + "1" + strings.Repeat("1", 63): api.ErrEnds,
	}
	for k := 1; k <= 64; k++ {
		l[zeros(k)] = api.ErrEnds
		l[zeros(k)+"1"] = api.ErrEnds
		l[zeros(k)+"1"+zeros(k-1)] = api.ErrEnds
		l[zeros(k)+"1"+strings.Repeat("1", k-1)] = api.ErrEnds
	}
	return l
}

func TestSourceNatRefused(t *testing.T) {
	for text, want := range refusedNats() {
		s := sourceOf(t, text)
		if u, err := s.Nat(); u != 0 || err != want {
			t.Errorf("Nat of %q: %d, error %d, not %d", text, u, err, want)
		}
		if n, err := s.Num(); n != 0 || err != want {
			t.Errorf("Num of %q: %d, error %d, not %d", text, n, err, want)
		}
		if x, err := s.Text(); x != "" || err != want {
			t.Errorf("Text of %q: %q, error %d, not %d", text, x, err, want)
		}
		if rest(t, s) != text {
			t.Errorf("%q: bits were taken", text)
		}
	}
	// whole bytes, as a caller hands them in
	for n, want := range map[int]api.Errno{0: api.ErrEnds, 1: api.ErrEnds, 8: api.ErrEnds, 9: api.ErrCode, 1000: api.ErrCode} {
		s := bits.NewSource(make([]byte, n))
		if u, err := s.Nat(); u != 0 || err != want || s.Left() != 8*n {
			t.Errorf("Nat of %d bytes 0: %d, error %d, Left %d", n, u, err, s.Left())
		}
	}
}

func TestSourceNum(t *testing.T) {
	for _, n := range numbers() {
		s := sourceOf(t, numCode(n)+"01")
		if got, err := s.Num(); got != n || err != api.OK || rest(t, s) != "01" {
			t.Errorf("Num of %d: %d, error %d", n, got, err)
		}
	}
	for text, want := range map[string]int64{"1": 0, "010": -1, "011": 1, "00100": -2, "00101": 2} {
		if got, err := sourceOf(t, text).Num(); got != want || err != api.OK {
			t.Errorf("Num of %s: %d, error %d", text, got, err)
		}
	}
}

func TestSourceText(t *testing.T) {
	for _, x := range []string{"", "A", "ab", "\x00", "\xff\xfe\x80", "caf\u00e9", strings.Repeat("long ", 50)} {
		s := sourceOf(t, textCode(x)+"011")
		if got, err := s.Text(); got != x || err != api.OK || rest(t, s) != "011" {
			t.Errorf("Text of %q: %q, error %d", x, got, err)
		}
	}
	// a source has no limit of its own
	n := api.MaxBits/8 + 1
	s := bits.NewSink()
	s.Nat(uint64(n))
	s.Flags(make([]bool, (8-s.Len()%8)%8)...)
	long := append(s.Out(), bytes.Repeat([]byte("z"), n)...)
	if got, err := bits.NewSource(long).Text(); err != api.OK || len(got) != n {
		t.Errorf("a long text: %d bytes, error %d", len(got), err)
	}
}

func TestSourceTextRefused(t *testing.T) {
	short := []string{}
	for cut := 1; cut <= 24; cut++ {
		whole := textCode("abc")
		short = append(short, whole[:len(whole)-cut])
	}
	for _, u := range []uint64{1, 8, 1 << 31, 1 << 60, 1 << 61, 1<<61 + 1, 1 << 62, 1 << 63, maxUint - 1, maxUint} {
		short = append(short, natCode(u), natCode(u)+"1010101")
	}
	for _, text := range short {
		s := sourceOf(t, text)
		if x, err := s.Text(); x != "" || err != api.ErrEnds {
			t.Errorf("Text of %q: %q, error %d", text, x, err)
		}
		if rest(t, s) != text {
			t.Errorf("%q: bits were taken", text)
		}
	}
}

func TestSourceFlag(t *testing.T) {
	s := sourceOf(t, "101")
	for _, want := range []bool{true, false, true} {
		if f, err := s.Flag(); f != want || err != api.OK {
			t.Errorf("%t, error %d", f, err)
		}
	}
	for range 2 {
		if f, err := s.Flag(); f || err != api.ErrEnds || s.Left() != 0 {
			t.Errorf("%t, error %d", f, err)
		}
	}
}

func TestSourceEnd(t *testing.T) {
	for n := range 30 {
		want := api.OK
		if n >= 8 {
			want = api.ErrMore
		}
		s := sourceOf(t, zeros(n))
		if err := s.End(); err != want || s.Left() != n {
			t.Errorf("End of %d bits 0: error %d, Left %d", n, err, s.Left())
		}
		for i := range n {
			text := zeros(i) + "1" + zeros(n-i-1)
			s := sourceOf(t, text)
			if err := s.End(); err != api.ErrMore || rest(t, s) != text {
				t.Errorf("End of %s: error %d", text, err)
			}
		}
	}
	if bits.NewSource(nil).End() != api.OK || bits.NewSource([]byte{}).End() != api.OK {
		t.Error("End of no bytes")
	}
	if bits.NewSource([]byte{0}).End() != api.ErrMore || bits.NewSource(make([]byte, 20)).End() != api.ErrMore {
		t.Error("End of bytes 0")
	}
}

func TestSourceLeft(t *testing.T) {
	for n := range 20 {
		if got := bits.NewSource(make([]byte, n)).Left(); got != 8*n {
			t.Errorf("Left of %d bytes: %d", n, got)
		}
	}
	s := bits.NewSource([]byte{0x28, 0xff})
	if u, err := s.Nat(); u != 4 || err != api.OK || s.Left() != 11 {
		t.Errorf("%d, error %d, Left %d", u, err, s.Left())
	}
}

// R3: bytes that are handed in are neither written to nor kept.
func TestSourceMemory(t *testing.T) {
	b := []byte{0x28, 0xff}
	s := bits.NewSource(b)
	s.Nat()
	s.Text()
	if !bytes.Equal(b, []byte{0x28, 0xff}) {
		t.Errorf("bytes were written to: %x", b)
	}
	b[1] = 0
	if u, err := s.Bits(11); u != 0xff || err != api.OK {
		t.Errorf("bytes are kept: %x, error %d", u, err)
	}
	s = bits.NewSource(b)
	b[0] = 0xff
	if u, err := s.Bits(8); u != 0x28 || err != api.OK {
		t.Errorf("bytes are kept: %x, error %d", u, err)
	}
	// two sources of the same bytes go their own ways
	x, y := bits.NewSource(b), bits.NewSource(b)
	x.Bits(5)
	if x.Left() != 11 || y.Left() != 16 {
		t.Error("two sources are one")
	}
}

// R5
func TestSourceNotMade(t *testing.T) {
	var zero bits.Source
	for _, s := range []*bits.Source{nil, &zero} {
		for _, n := range []int{0, 1, 64, 65, -1} {
			if u, err := s.Bits(n); u != 0 || err != api.ErrMade {
				t.Errorf("Bits(%d): %d, error %d", n, u, err)
			}
		}
		u, e1 := s.Nat()
		n, e2 := s.Num()
		x, e3 := s.Text()
		f, e4 := s.Flag()
		if u != 0 || n != 0 || x != "" || f || s.Left() != 0 {
			t.Error("an answer that is not the zero value")
		}
		for _, err := range []api.Errno{e1, e2, e3, e4, s.End()} {
			if err != api.ErrMade {
				t.Errorf("error %d", err)
			}
		}
	}
	// one of no bytes was made
	if _, err := bits.NewSource(nil).Flag(); err != api.ErrEnds {
		t.Errorf("error %d", err)
	}
}

// The bits of numbers above 2^64 - 1, told by numbers of any length, are refused, whatever they are.
func TestSourceNatAbove(t *testing.T) {
	two64 := new(big.Int).Lsh(big.NewInt(1), 64)
	for k := range 64 {
		v := new(big.Int).Add(two64, new(big.Int).Lsh(big.NewInt(1), uint(k)))
		text := bigCode(v)
		s := sourceOf(t, text)
		if u, err := s.Nat(); u != 0 || err != api.ErrCode || rest(t, s) != text {
			t.Errorf("2^64 + 2^%d: %d, error %d", k, u, err)
		}
	}
}
