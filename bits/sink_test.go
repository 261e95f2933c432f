package bits_test

import (
	"bytes"
	"math"
	"slices"
	"strings"
	"testing"

	"eyrie/api"
	"eyrie/bits"
)

// P1.1

func TestSinkBegins(t *testing.T) {
	s := bits.NewSink()
	if s == nil || s.Len() != 0 || len(s.Out()) != 0 {
		t.Fatal("a new sink is not empty")
	}
	if bits.NewSink() == s {
		t.Fatal("two sinks are one")
	}
}

func TestSinkExamples(t *testing.T) {
	for _, c := range []struct {
		what string
		put  func(s *bits.Sink) api.Errno
		want string
	}{
		{"Nat(0)", func(s *bits.Sink) api.Errno { return s.Nat(0) }, "1"},
		{"Nat(1)", func(s *bits.Sink) api.Errno { return s.Nat(1) }, "010"},
		{"Nat(2)", func(s *bits.Sink) api.Errno { return s.Nat(2) }, "011"},
		{"Nat(4)", func(s *bits.Sink) api.Errno { return s.Nat(4) }, "00101"},
		{"Num(0)", func(s *bits.Sink) api.Errno { return s.Num(0) }, "1"},
		{"Num(-1)", func(s *bits.Sink) api.Errno { return s.Num(-1) }, "010"},
		{"Num(1)", func(s *bits.Sink) api.Errno { return s.Num(1) }, "011"},
		{"Num(-2)", func(s *bits.Sink) api.Errno { return s.Num(-2) }, "00100"},
		{"Bits(6, 3)", func(s *bits.Sink) api.Errno { return s.Bits(6, 3) }, "110"},
		{"Bits(1, 5)", func(s *bits.Sink) api.Errno { return s.Bits(1, 5) }, "00001"},
		{"Text of nothing", func(s *bits.Sink) api.Errno { return s.Text("") }, "1"},
		{"Text(A)", func(s *bits.Sink) api.Errno { return s.Text("A") }, "010" + "01000001"},
		{"Text of bytes", func(s *bits.Sink) api.Errno { return s.Text("\x00\xff") }, "011" + "00000000" + "11111111"},
		{"Flags", func(s *bits.Sink) api.Errno { return s.Flags(true, false, false, true) }, "1001"},
		{"no Flags", func(s *bits.Sink) api.Errno { return s.Flags() }, ""},
	} {
		s := bits.NewSink()
		if err := c.put(s); err != api.OK {
			t.Errorf("%s: error %d", c.what, err)
		}
		if got := shown(t, s); got != c.want {
			t.Errorf("%s: %s, not %s", c.what, got, c.want)
		}
	}
	s := bits.NewSink()
	s.Nat(4)
	if !bytes.Equal(s.Out(), []byte{40}) {
		t.Errorf("Out of Nat(4): %v", s.Out())
	}
}

func TestSinkPutsBehind(t *testing.T) {
	s, want := bits.NewSink(), ""
	for i, u := range edges() {
		ok := s.Nat(u) == api.OK && s.Num(-int64(u)) == api.OK && s.Bits(u, 64) == api.OK &&
			s.Flags(i%2 == 0) == api.OK && s.Text("x") == api.OK
		if !ok {
			t.Fatalf("%d: not put", u)
		}
		want += natCode(u) + numCode(-int64(u)) + wide(u, 64) + wide(uint64(1-i%2), 1) + textCode("x")
		if s.Len() != len(want) {
			t.Fatalf("%d: Len %d, not %d", u, s.Len(), len(want))
		}
	}
	if got := shown(t, s); got != want {
		t.Fatal("the bits are other ones")
	}
}

func TestSinkBitsEdges(t *testing.T) {
	for n := range 65 {
		top := uint64(1)<<n - 1
		for _, u := range []uint64{0, top / 2, top / 3, top} {
			s := bits.NewSink()
			if err := s.Bits(u, n); err != api.OK || shown(t, s) != wide(u, n) {
				t.Errorf("Bits(%d, %d): error %d, %s", u, n, err, shown(t, s))
			}
		}
		if n == 64 {
			continue
		}
		for _, u := range []uint64{top + 1, 1 << 63, maxUint} {
			s := fullTo(t, 3)
			if err := s.Bits(u, n); err != api.ErrArg || shown(t, s) != "101" {
				t.Errorf("Bits(%d, %d): error %d, %s", u, n, err, shown(t, s))
			}
		}
	}
	for _, n := range []int{-1, 65, 66, 128, -64, math.MinInt, math.MaxInt} {
		for _, u := range []uint64{0, 1, maxUint} {
			s := fullTo(t, 3)
			if err := s.Bits(u, n); err != api.ErrArg || shown(t, s) != "101" {
				t.Errorf("Bits(%d, %d): error %d, %s", u, n, err, shown(t, s))
			}
		}
	}
}

func TestSinkNumbers(t *testing.T) {
	for _, u := range edges() {
		s := bits.NewSink()
		if err := s.Nat(u); err != api.OK || shown(t, s) != natCode(u) {
			t.Errorf("Nat(%d): error %d, %s", u, err, shown(t, s))
		}
	}
	for _, n := range numbers() {
		s := bits.NewSink()
		if err := s.Num(n); err != api.OK || shown(t, s) != numCode(n) {
			t.Errorf("Num(%d): error %d, %s", n, err, shown(t, s))
		}
	}
	s := bits.NewSink()
	s.Nat(maxUint)
	if want := strings.Repeat("0", 64) + "1" + strings.Repeat("0", 64); shown(t, s) != want {
		t.Errorf("the greatest natural number: %s", shown(t, s))
	}
	s = bits.NewSink()
	s.Num(minInt)
	if want := natCode(maxUint); shown(t, s) != want {
		t.Errorf("the least int64: %s", shown(t, s))
	}
}

// putting is a way to put something, and how many bits that are.
type putting struct {
	what string
	n    int
	put  func(s *bits.Sink) api.Errno
}

func puts() []putting {
	return []putting{
		{"Bits(1, 1)", 1, func(s *bits.Sink) api.Errno { return s.Bits(1, 1) }},
		{"Bits(max, 64)", 64, func(s *bits.Sink) api.Errno { return s.Bits(maxUint, 64) }},
		{"Nat(0)", 1, func(s *bits.Sink) api.Errno { return s.Nat(0) }},
		{"Nat(4)", 5, func(s *bits.Sink) api.Errno { return s.Nat(4) }},
		{"Nat(max)", 129, func(s *bits.Sink) api.Errno { return s.Nat(maxUint) }},
		{"Num(-1)", 3, func(s *bits.Sink) api.Errno { return s.Num(-1) }},
		{"Num(min)", 129, func(s *bits.Sink) api.Errno { return s.Num(minInt) }},
		{"Text of nothing", 1, func(s *bits.Sink) api.Errno { return s.Text("") }},
		{"Text(ab)", 19, func(s *bits.Sink) api.Errno { return s.Text("ab") }},
		{"a flag", 1, func(s *bits.Sink) api.Errno { return s.Flags(true) }},
		{"nine flags", 9, func(s *bits.Sink) api.Errno {
			return s.Flags(true, true, true, true, true, true, true, true, true)
		}},
	}
}

func TestSinkMaxBits(t *testing.T) {
	for _, c := range puts() {
		s := fullTo(t, api.MaxBits-c.n)
		if err := c.put(s); err != api.OK || s.Len() != api.MaxBits || len(s.Out()) != api.MaxBits/8 {
			t.Errorf("%s up to MaxBits: error %d, Len %d", c.what, err, s.Len())
		}
		s = fullTo(t, api.MaxBits-c.n+1)
		had := s.Out()
		if err := c.put(s); err != api.ErrLong || s.Len() != api.MaxBits-c.n+1 || !bytes.Equal(s.Out(), had) {
			t.Errorf("%s past MaxBits: error %d, Len %d", c.what, err, s.Len())
		}
		s = fullTo(t, api.MaxBits)
		had = s.Out()
		if err := c.put(s); err != api.ErrLong || s.Len() != api.MaxBits || !bytes.Equal(s.Out(), had) {
			t.Errorf("%s at MaxBits: error %d, Len %d", c.what, err, s.Len())
		}
	}
}

func TestSinkFull(t *testing.T) {
	s := fullTo(t, api.MaxBits)
	if s.Bits(0, 0) != api.OK || s.Flags() != api.OK || s.Len() != api.MaxBits {
		t.Error("nothing has place in a full sink, too")
	}
	// the error that the chapter names first
	if s.Bits(1, 0) != api.ErrArg || s.Bits(0, 65) != api.ErrArg || s.Bits(0, -1) != api.ErrArg || s.Bits(2, 1) != api.ErrArg {
		t.Error("of a full sink ErrArg comes ahead of ErrLong")
	}
	if s.Len() != api.MaxBits {
		t.Error("Len", s.Len())
	}
	// what was refused leaves room for what fits
	s = fullTo(t, api.MaxBits-2)
	if s.Nat(1) != api.ErrLong || s.Flags(true, true, true) != api.ErrLong || s.Bits(3, 2) != api.OK || s.Len() != api.MaxBits {
		t.Error("what fits behind what does not: Len", s.Len())
	}
}

func TestSinkLongText(t *testing.T) {
	// 33 bits say 131,067, and 8 * 131,067 follow: seven bits less than MaxBits
	long := strings.Repeat("a", 131067)
	s := fullTo(t, 7)
	if err := s.Text(long); err != api.OK || s.Len() != api.MaxBits {
		t.Errorf("a text up to MaxBits: error %d, Len %d", err, s.Len())
	}
	for _, c := range []struct {
		begin, text string
	}{{"10101010", long}, {"", long + "a"}, {"1", strings.Repeat("b", api.MaxBits/8)}, {"", strings.Repeat("c", api.MaxBits)}} {
		s := fullTo(t, len(c.begin))
		if err := s.Text(c.text); err != api.ErrLong || shown(t, s) != c.begin {
			t.Errorf("a text of %d bytes: error %d, Len %d", len(c.text), err, s.Len())
		}
	}
	s = bits.NewSink()
	if err := s.Flags(make([]bool, api.MaxBits+1)...); err != api.ErrLong || s.Len() != 0 {
		t.Errorf("flags: error %d, Len %d", err, s.Len())
	}
}

// R3: what is answered is nobody else's, what is handed in is left as it is.
func TestSinkMemory(t *testing.T) {
	s := fullTo(t, 12)
	first, second := s.Out(), s.Out()
	first[0], first[1] = 0x55, 0x55
	if !bytes.Equal(s.Out(), []byte{0xaa, 0xa0}) || !bytes.Equal(second, []byte{0xaa, 0xa0}) {
		t.Error("what Out answered is shared")
	}
	_ = append(second[:1], 0x77)
	s.Bits(0xf, 4)
	if !bytes.Equal(s.Out(), []byte{0xaa, 0xaf}) {
		t.Errorf("Out: %x", s.Out())
	}
	third := s.Out()
	s.Text("more")
	if !bytes.Equal(third, []byte{0xaa, 0xaf}) {
		t.Errorf("what Out answered changes: %x", third)
	}
	l := []bool{true, false, true}
	s = bits.NewSink()
	s.Flags(l...)
	if !slices.Equal(l, []bool{true, false, true}) {
		t.Error("flags were written to")
	}
	l[0] = false
	if shown(t, s) != "101" {
		t.Error("flags are kept")
	}
}

// R5
func TestSinkNotMade(t *testing.T) {
	var zero bits.Sink
	for _, s := range []*bits.Sink{nil, &zero} {
		for _, err := range []api.Errno{s.Bits(0, 0), s.Bits(1, 1), s.Bits(2, 1), s.Bits(0, 65), s.Bits(0, -1), s.Nat(0), s.Nat(maxUint),
			s.Num(0), s.Num(minInt), s.Text(""), s.Text("ab"), s.Text(strings.Repeat("a", api.MaxBits)), s.Flags(), s.Flags(true)} {
			if err != api.ErrMade {
				t.Errorf("error %d", err)
			}
		}
		if s.Len() != 0 || len(s.Out()) != 0 {
			t.Errorf("Len %d, Out %v", s.Len(), s.Out())
		}
	}
}

func TestSize(t *testing.T) {
	for _, u := range edges() {
		if got := bits.Size(u); got != len(natCode(u)) {
			t.Errorf("Size(%d): %d, not %d", u, got, len(natCode(u)))
		}
	}
	if bits.Size(0) != 1 || bits.Size(1) != 3 || bits.Size(4) != 5 || bits.Size(maxUint-1) != 127 || bits.Size(maxUint) != 129 {
		t.Error("Size at the edges")
	}
}
