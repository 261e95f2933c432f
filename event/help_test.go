package event_test

import (
	"math"
	"math/big"
	"math/rand/v2"
	"slices"
	"strconv"
	"strings"
	"testing"

	"eyrie/api"
	"eyrie/bits"
)

// dice are the same at each run.
func dice() *rand.Rand { return rand.New(rand.NewPCG(40, 41)) }

func num(n int64) api.Value { return api.Value{Kind: api.VInt, N: n} }

func str(s string) api.Value { return api.Value{Kind: api.VStr, S: s} }

func attr(name string, v api.Value) api.Attr { return api.Attr{Name: name, Value: v} }

// ev is an event of the type A.
func ev(source int, seq, time int64, attrs ...api.Attr) api.Event {
	return api.Event{ID: api.ID{Source: source, Seq: seq}, Time: time, Type: "A", Attrs: attrs}
}

// typed is an event of that type.
func typed(name string) api.Event {
	e := ev(1, 2, 3)
	e.Type = name
	return e
}

// full is as many attributes as may be.
func full() []api.Attr {
	return []api.Attr{attr("A", num(math.MinInt64)), attr("_", str("")), attr("a", num(-1)), attr("a0", str("\x00\xff\"")), attr("b", num(0)),
		attr("c", num(math.MaxInt64)), attr(strings.Repeat("d", api.MaxName), str(strings.Repeat("s", api.MaxString))), attr("e", num(7))}
}

// ordinary are events that may be, with the edges that the chapter names.
func ordinary() []api.Event {
	l := []api.Event{
		ev(0, 0, 0), ev(api.MaxSources-1, 0, 0), ev(0, api.MaxTime, 0), ev(0, 0, api.MaxTime), ev(api.MaxSources-1, api.MaxTime, api.MaxTime),
		typed("a"), typed("_"), typed("Z9_z"), typed(strings.Repeat("T", api.MaxName)),
		ev(3, 4, 5, attr("x", num(6))), ev(3, 4, 5, attr("x", str("y"))), ev(3, 4, 5, attr("x", str("")), attr("y", num(0))), ev(3, 4, 5, []api.Attr{}...),
	}
	for n := range len(full()) + 1 {
		l = append(l, ev(n, int64(n), int64(2*n), full()[:n]...))
	}
	for k := range 41 {
		n := int64(1) << k
		l = append(l, ev(k%16, n, n-1), ev(k%16, n-1, n, attr("k", num(n)), attr("m", num(-n)), attr("n", num(n-1))))
	}
	for c := range 256 {
		l = append(l, ev(2, 1, 0, attr("c", str(string([]byte{byte(c)})))))
	}
	return l
}

// bad is an event that may not be, and the error that it asks for.
type bad struct {
	e    api.Event
	want api.Errno
}

func refused() []bad {
	var l []bad
	for _, n := range []int{-1, -16, math.MinInt, api.MaxSources, api.MaxSources + 1, 256, 1 << 32, math.MaxInt} {
		l = append(l, bad{ev(n, 0, 0), api.ErrEvent})
	}
	for _, n := range []int64{-1, -api.MaxTime, math.MinInt64, api.MaxTime + 1, api.MaxTime + 2, 1 << 41, math.MaxInt64} {
		l = append(l, bad{ev(0, n, 0), api.ErrEvent}, bad{ev(0, 0, n), api.ErrEvent}, bad{ev(0, n, n), api.ErrEvent})
	}
	for _, s := range []string{"", "1", "1a", " ", "a b", "a-b", "a\x00", "\xff", "\u00e9", strings.Repeat("a", api.MaxName+1)} {
		l = append(l, bad{typed(s), api.ErrEvent})
		l = append(l, bad{ev(0, 0, 0, attr(s, num(1))), api.ErrName}, bad{ev(0, 0, 0, attr("A", num(1)), attr(s, num(1))), api.ErrName})
	}
	long := strings.Repeat("a", api.MaxString+1)
	for _, v := range []api.Value{{}, {Kind: 3}, {Kind: -1}, {Kind: 5}, {Kind: 6}, {Kind: api.VInt, S: "a"}, {Kind: api.VStr, N: 1}, str(long)} {
		l = append(l, bad{ev(0, 0, 0, attr("x", v)), api.ErrValue}, bad{ev(0, 0, 0, attr("a", num(1)), attr("x", v), attr("", v)), api.ErrValue})
	}
	l = append(l,
		bad{ev(0, 0, 0, attr("a", num(1)), attr("a", num(1))), api.ErrOrder},
		bad{ev(0, 0, 0, attr("b", num(1)), attr("a", num(1)), attr("", num(1))), api.ErrOrder},
		bad{ev(0, 0, 0, append(full(), attr("f", num(1)))...), api.ErrLong},
		bad{ev(0, 0, 0, make([]api.Attr, 1000)...), api.ErrLong})
	return append(l, several()...)
}

// several are events for which several errors apply: what is ahead of the attributes comes first.
func several() []bad {
	var l []bad
	for _, attrs := range [][]api.Attr{make([]api.Attr, 9), {attr("", num(1))}, {attr("a", api.Value{})}, {attr("b", num(1)), attr("a", num(1))}} {
		e := typed("")
		e.Attrs = attrs
		l = append(l, bad{e, api.ErrEvent}, bad{ev(16, 0, 0, attrs...), api.ErrEvent},
			bad{ev(0, -1, 0, attrs...), api.ErrEvent}, bad{ev(0, 0, api.Forever, attrs...), api.ErrEvent})
	}
	return l
}

// some is an event that may be, by chance.
func some(r *rand.Rand) api.Event {
	e := ev(r.IntN(api.MaxSources), r.Int64N(api.MaxTime+1)>>r.IntN(41), r.Int64N(api.MaxTime+1)>>r.IntN(41))
	e.Type = name(r)
	for range r.IntN(api.MaxAttrs + 1) {
		s := name(r)
		i, is := slices.BinarySearchFunc(e.Attrs, s, func(a api.Attr, s string) int { return strings.Compare(a.Name, s) })
		if !is {
			e.Attrs = slices.Insert(e.Attrs, i, attr(s, someValue(r)))
		}
	}
	return e
}

// someValue is a value that may be, by chance.
func someValue(r *rand.Rand) api.Value {
	if r.IntN(2) == 0 {
		return num(int64(r.Uint64()) >> r.IntN(64))
	}
	return str(noise(r, r.IntN(api.MaxString+1)>>r.IntN(7)))
}

func name(r *rand.Rand) string {
	const letters = "abcxyzABCXYZ_0189"
	b := []byte{letters[r.IntN(13)]}
	for range r.IntN(api.MaxName) >> r.IntN(6) {
		b = append(b, letters[r.IntN(len(letters))])
	}
	return string(b)
}

// noise is n bytes of any sort.
func noise(r *rand.Rand, n int) string {
	b := make([]byte, n)
	for i := range b {
		b[i] = byte(r.Uint32())
	}
	return string(b)
}

// alike tells of two events whether they are the same, as Same should.
func alike(a, b api.Event) bool {
	return a.ID == b.ID && a.Time == b.Time && a.Type == b.Type && slices.Equal(a.Attrs, b.Attrs)
}

// none tells whether an event is the zero value.
func none(e api.Event) bool { return alike(e, api.Event{}) && e.Attrs == nil }

// Bits as '0' and '1'.

// code is the code that says the natural number v - 1.
func code(v *big.Int) string { return zeros(v.BitLen()-1) + v.Text(2) }

// nat is the code of a natural number.
func nat(u uint64) string {
	v := new(big.Int).SetUint64(u)
	return code(v.Add(v, big.NewInt(1)))
}

// number is the code of a number.
func number(n int64) string {
	v := big.NewInt(n)
	v.Mul(v, big.NewInt(2))
	if n < 0 {
		v.Neg(v)
		v.Sub(v, big.NewInt(1))
	}
	return code(v.Add(v, big.NewInt(1)))
}

// text is the code of a text.
func text(s string) string {
	b := nat(uint64(len(s)))
	for i := range len(s) {
		b += wide(int(s[i]), 8)
	}
	return b
}

func zeros(n int) string { return strings.Repeat("0", n) }

// wide is u in n bits.
func wide(u, n int) string {
	t := strconv.FormatInt(int64(u), 2)
	return zeros(n-len(t)) + t
}

// head is the bits of what is ahead of the attributes.
func head(source int, seq, time uint64, kind string) string {
	return wide(source, 4) + nat(seq) + nat(time) + text(kind)
}

// plain is the chapter's form of an event.
func plain(e api.Event) string {
	t := head(e.ID.Source, uint64(e.ID.Seq), uint64(e.Time), e.Type) + wide(len(e.Attrs), 4)
	for _, a := range e.Attrs {
		t += text(a.Name) + wide(a.Value.Kind, 2)
		if a.Value.Kind == api.VInt {
			t += number(a.Value.N)
		} else {
			t += text(a.Value.S)
		}
	}
	return t
}

// packed is bits up to the end of a byte.
func packed(text string) []byte {
	text += zeros((8 - len(text)%8) % 8)
	b := make([]byte, len(text)/8)
	for i := range text {
		b[i/8] = b[i/8]<<1 | (text[i] - '0')
	}
	return b
}

// sourceOf is a source to which just these bits are left.
func sourceOf(t *testing.T, text string) *bits.Source {
	t.Helper()
	pad := (8 - len(text)%8) % 8
	s := bits.NewSource(packed(strings.Repeat("1", pad) + text))
	if _, err := s.Bits(pad); err != api.OK || s.Left() != len(text) {
		t.Fatalf("a source of %d bits: error %d, Left %d", len(text), err, s.Left())
	}
	return s
}

// rest takes all that is left.
func rest(s *bits.Source) string {
	var all strings.Builder
	for s.Left() > 0 {
		f, _ := s.Flag()
		if f {
			all.WriteByte('1')
		} else {
			all.WriteByte('0')
		}
	}
	return all.String()
}

// held is what a sink holds.
func held(s *bits.Sink) string { return rest(bits.NewSource(s.Out()))[:s.Len()] }

// sinkOf is a sink with n bits: a 1 and a 0 by turns.
func sinkOf(t *testing.T, n int) *bits.Sink {
	t.Helper()
	l := make([]bool, n)
	for i := range l {
		l[i] = i%2 == 0
	}
	s := bits.NewSink()
	if err := s.Flags(l...); err != api.OK || s.Len() != n {
		t.Fatalf("a sink of %d bits: error %d, Len %d", n, err, s.Len())
	}
	return s
}
