package bits_test

import (
	mathbits "math/bits"
	"slices"
	"strings"
	"testing"

	"eyrie/api"
	"eyrie/bits"
)

// P1.3

// pair puts a thing, and takes it again, telling whether it was the same.
type pair struct {
	put  func(s *bits.Sink) api.Errno
	take func(s *bits.Source) bool
}

func (d *dice) text() string {
	b := make([]byte, d.below(20))
	for i := range b {
		b[i] = byte(d.next())
	}
	return string(b)
}

// pair is one of a kind, and of a value, by chance.
func (d *dice) pair() pair {
	u, x := d.some(), d.text()
	n := d.below(65)
	part := u & (uint64(1)<<n - 1)
	switch d.below(5) {
	case 0:
		return pair{func(s *bits.Sink) api.Errno { return s.Nat(u) },
			func(s *bits.Source) bool { v, err := s.Nat(); return v == u && err == api.OK }}
	case 1:
		return pair{func(s *bits.Sink) api.Errno { return s.Num(int64(u)) },
			func(s *bits.Source) bool { v, err := s.Num(); return v == int64(u) && err == api.OK }}
	case 2:
		return pair{func(s *bits.Sink) api.Errno { return s.Bits(part, n) },
			func(s *bits.Source) bool { v, err := s.Bits(n); return v == part && err == api.OK }}
	case 3:
		return pair{func(s *bits.Sink) api.Errno { return s.Text(x) },
			func(s *bits.Source) bool { v, err := s.Text(); return v == x && err == api.OK }}
	}
	return pair{func(s *bits.Sink) api.Errno { return s.Flags(u&1 == 1, u&2 == 2) },
		func(s *bits.Source) bool {
			a, e1 := s.Flag()
			b, e2 := s.Flag()
			return a == (u&1 == 1) && b == (u&2 == 2) && e1 == api.OK && e2 == api.OK
		}}
}

func TestWhatIsPutIsTaken(t *testing.T) {
	d := &dice{}
	for range 400 {
		s := bits.NewSink()
		l := make([]pair, d.below(40))
		for i := range l {
			l[i] = d.pair()
			if err := l[i].put(s); err != api.OK {
				t.Fatalf("error %d", err)
			}
		}
		r := bits.NewSource(s.Out())
		for i, p := range l {
			if !p.take(r) {
				t.Fatalf("thing %d of %d is another one", i, len(l))
			}
		}
		if err := r.End(); err != api.OK {
			t.Fatalf("End: error %d", err)
		}
	}
}

func TestEachAloneIsTaken(t *testing.T) {
	for _, u := range edges() {
		s := bits.NewSink()
		s.Nat(u)
		r := bits.NewSource(s.Out())
		if v, err := r.Nat(); v != u || err != api.OK || r.End() != api.OK {
			t.Errorf("Nat(%d): %d, error %d", u, v, err)
		}
	}
	for _, n := range numbers() {
		s := bits.NewSink()
		s.Num(n)
		r := bits.NewSource(s.Out())
		if v, err := r.Num(); v != n || err != api.OK || r.End() != api.OK {
			t.Errorf("Num(%d): %d, error %d", n, v, err)
		}
	}
}

// A sink up to MaxBits, taken again.
func TestFullSinkIsTaken(t *testing.T) {
	s, d := bits.NewSink(), &dice{}
	var l []uint64
	for u := d.some(); s.Nat(u) == api.OK; u = d.some() {
		l = append(l, u)
	}
	for s.Flags(false) == api.OK { // what is left of the room
	}
	r := bits.NewSource(s.Out())
	for _, u := range l {
		if v, err := r.Nat(); v != u || err != api.OK {
			t.Fatalf("%d, not %d; error %d", v, u, err)
		}
	}
}

// Of any bytes: what is taken has one form only, so it is put as it stood; with an error nothing is taken.
func TestAnyBytes(t *testing.T) {
	d := &dice{state: 7}
	for range 3000 {
		b := make([]byte, d.below(40))
		for i := range b {
			b[i] = byte(d.next() & d.next() & d.next())
		}
		r, s := bits.NewSource(b), bits.NewSink()
		for range 2 * len(b) {
			left := r.Left()
			if d.again(r, s) != api.OK && r.Left() != left {
				t.Fatal("taken with an error")
			}
		}
		if r.Left() != 8*len(b)-s.Len() {
			t.Fatal("taken and put are not as many")
		}
		all := rest(t, bits.NewSource(b))
		if shown(t, s) != all[:s.Len()] {
			t.Fatal("put in another form")
		}
	}
}

// again takes something, and puts it.
func (d *dice) again(r *bits.Source, s *bits.Sink) api.Errno {
	switch d.below(4) {
	case 0:
		if n, err := r.Num(); err != api.OK {
			return err
		} else {
			return s.Num(n)
		}
	case 1:
		if x, err := r.Text(); err != api.OK {
			return err
		} else {
			return s.Text(x)
		}
	case 2:
		if f, err := r.Flag(); err != api.OK {
			return err
		} else {
			return s.Flags(f)
		}
	}
	u, err := r.Nat()
	if err != api.OK {
		return err
	}
	return s.Nat(u)
}

// P1.4

func TestNoCodeBeginsAnother(t *testing.T) {
	l := edges()
	for u := range uint64(300) {
		l = append(l, u)
	}
	slices.Sort(l)
	l = slices.Compact(l)
	codes := make([]string, len(l))
	for i, u := range l {
		s := bits.NewSink()
		s.Nat(u)
		codes[i] = shown(t, s)
	}
	for i, a := range codes {
		for j, b := range codes {
			if i != j && strings.HasPrefix(b, a) {
				t.Fatalf("%d begins as %d: %s, %s", l[j], l[i], b, a)
			}
		}
	}
}

func TestSizeBounds(t *testing.T) {
	l := edges()
	for u := range uint64(1 << 12) {
		l = append(l, u)
	}
	slices.Sort(l)
	last := 0
	for _, u := range l {
		n := bits.Size(u)
		if n < last {
			t.Errorf("Size(%d): %d, a lesser number's is %d", u, n, last)
		}
		last = n
		if n < 1 || n > 2*mathbits.Len64(u)+1 {
			t.Errorf("Size(%d): %d", u, n)
		}
		s := bits.NewSink()
		if s.Nat(u); s.Len() != n {
			t.Errorf("Size(%d): %d, but Nat puts %d", u, n, s.Len())
		}
	}
	if bits.Size(0) != 1 {
		t.Error("Size(0):", bits.Size(0))
	}
}
