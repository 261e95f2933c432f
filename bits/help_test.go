package bits_test

import (
	"math/big"
	mathbits "math/bits"
	"strings"
	"testing"

	"eyrie/api"
	"eyrie/bits"
)

const (
	maxUint = 1<<64 - 1
	maxInt  = 1<<63 - 1
	minInt  = -1 << 63
)

// natCode is the chapter's code of a natural number, by numbers of any length: '0' and '1'.
func natCode(u uint64) string {
	v := new(big.Int).SetUint64(u)
	return bigCode(v.Add(v, big.NewInt(1)))
}

// bigCode is the code that says the natural number v - 1.
func bigCode(v *big.Int) string {
	return strings.Repeat("0", v.BitLen()-1) + v.Text(2)
}

// numCode is the chapter's code of a number.
func numCode(n int64) string {
	v := big.NewInt(n)
	v.Mul(v, big.NewInt(2))
	if n < 0 {
		v.Neg(v)
		v.Sub(v, big.NewInt(1))
	}
	return bigCode(v.Add(v, big.NewInt(1)))
}

// textCode is the chapter's code of a text.
func textCode(t string) string {
	b := natCode(uint64(len(t)))
	for i := range len(t) {
		b += wide(uint64(t[i]), 8)
	}
	return b
}

// wide is u in n bits.
func wide(u uint64, n int) string {
	if n == 0 {
		return ""
	}
	t := new(big.Int).SetUint64(u).Text(2)
	return strings.Repeat("0", n-len(t)) + t
}

// shown is what a sink holds, as '0' and '1'; it fails if Len and Out do not suit each other.
func shown(t *testing.T, s *bits.Sink) string {
	t.Helper()
	var all strings.Builder
	out := s.Out()
	for _, b := range out {
		all.WriteString(wide(uint64(b), 8))
	}
	text, n := all.String(), s.Len()
	if len(out) != (n+7)/8 {
		t.Fatalf("Len %d, but Out has %d bytes", n, len(out))
	}
	if strings.Contains(text[n:], "1") {
		t.Fatalf("a bit 1 behind the last one: %s, Len %d", text, n)
	}
	return text[:n]
}

// sourceOf is a source to which just these bits are left ('0' and '1').
func sourceOf(t *testing.T, text string) *bits.Source {
	t.Helper()
	pad := (8 - len(text)%8) % 8
	whole := strings.Repeat("1", pad) + text
	b := make([]byte, len(whole)/8)
	for i := range whole {
		b[i/8] = b[i/8]<<1 | (whole[i] - '0')
	}
	s := bits.NewSource(b)
	if _, err := s.Bits(pad); err != api.OK || s.Left() != len(text) {
		t.Fatalf("a source of %d bits: error %d, Left %d", len(text), err, s.Left())
	}
	return s
}

// rest takes all that is left, as '0' and '1'.
func rest(t *testing.T, s *bits.Source) string {
	t.Helper()
	var all strings.Builder
	for s.Left() > 0 {
		n := min(s.Left(), 64)
		u, err := s.Bits(n)
		if err != api.OK {
			t.Fatalf("Bits(%d): error %d", n, err)
		}
		all.WriteString(wide(u, n))
	}
	return all.String()
}

// fullTo is a sink with n bits: a 1 and a 0 by turns.
func fullTo(t *testing.T, n int) *bits.Sink {
	t.Helper()
	l := make([]bool, n)
	for i := range l {
		l[i] = i%2 == 0
	}
	s := bits.NewSink()
	if err := s.Flags(l...); err != api.OK || s.Len() != n {
		t.Fatalf("a sink of %d bits: error %d, Len %d", n, err, s.Len())
	}
	return s
}

// edges are natural numbers: small ones, and those around each power of two.
func edges() []uint64 {
	l := []uint64{0, 1, 2, 3, 4, 5, 6, 7, 8, 9, 10, 100, 1000, 1000000007, maxUint - 1, maxUint}
	for k := range 64 {
		p := uint64(1) << k
		l = append(l, p-1, p, p+1, p+p/2)
	}
	return l
}

// numbers are ints: small ones, and those around each power of two, of both signs.
func numbers() []int64 {
	l := []int64{minInt, minInt + 1, maxInt - 1, maxInt}
	for _, u := range edges() {
		l = append(l, int64(u), -int64(u))
	}
	return l
}

// dice are numbers that look like random ones, and are the same at each run.
type dice struct{ state uint64 }

func (d *dice) next() uint64 {
	d.state += 0x9e3779b97f4a7c15
	hi, lo := mathbits.Mul64(d.state, 0xd1342543de82ef95)
	return hi ^ lo
}

// below is a number from 0 to n less 1.
func (d *dice) below(n int) int { return int(d.next() % uint64(n)) }

// some is a number of any length in bits, short ones being as likely as long ones.
func (d *dice) some() uint64 { return d.next() >> d.below(64) }
