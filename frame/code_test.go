package frame_test

import (
	"bytes"
	"math/big"
	"strings"
	"testing"

	"eyrie/api"
	"eyrie/frame"
)

// P2.2, P2.3

// encoded is a datagram's bytes; it fails if there are none.
func encoded(t *testing.T, d api.Datagram) []byte {
	t.Helper()
	b, err := frame.Encode(d)
	if err != api.OK {
		t.Fatalf("%s: error %d", shown(d), err)
	}
	return b
}

func TestFormExamples(t *testing.T) {
	if b := encoded(t, ack(0, 1, 0)); len(b) != 6 || b[0] != 128 || b[1] != 96 || !bytes.Equal(b, summed([]byte{128, 96})) {
		t.Errorf("an ack from 0 to 1 of 0: %v", b)
	}
	// 01 0010 0011, Ack 1: 010, Seq 0: 1, one byte: 010, 'A': 01000001, and 7 bits 0
	want := summed([]byte{0b01001000, 0b11010101, 0b00100000, 0b10000000})
	if b := encoded(t, data(2, 3, 0, 1, "A")); !bytes.Equal(b, want) {
		t.Errorf("data: %v, not %v", b, want)
	}
}

func TestForm(t *testing.T) {
	l, r := ordinary(), dice()
	for range 2000 {
		l = append(l, some(r))
	}
	for _, d := range l {
		want := sealed(plain(d))
		if b := encoded(t, d); !bytes.Equal(b, want) {
			t.Errorf("%s: %x, not %x", shown(d), b, want)
		}
		if n := frame.Size(d); n != len(want) {
			t.Errorf("%s: Size %d, not %d", shown(d), n, len(want))
		}
		o, err := frame.Decode(want)
		if err != api.OK || !alike(o, d) || !frame.Same(o, d) {
			t.Errorf("%s: decoded as %s, error %d", shown(d), shown(o), err)
		}
	}
}

func TestEncodeRefuses(t *testing.T) {
	for _, d := range refused() {
		if b, err := frame.Encode(d); err != api.ErrFrame || b != nil {
			t.Errorf("%s: error %d, %d bytes", shown(d), err, len(b))
		}
		if n := frame.Size(d); n != 0 {
			t.Errorf("%s: Size %d", shown(d), n)
		}
	}
}

// An empty body is a nil one.
func TestEncodeEmptyBody(t *testing.T) {
	for _, kind := range []int{api.DgData, api.DgAck} {
		a := api.Datagram{From: 1, To: 2, Kind: kind, Ack: 5}
		b := a
		b.Body = make([]byte, 0, 8)
		if !bytes.Equal(encoded(t, a), encoded(t, b)) || frame.Size(a) != frame.Size(b) {
			t.Errorf("kind %d: an empty body is not a nil one", kind)
		}
	}
}

// reject asks that Decode answers an error, and nothing beside it.
func reject(t *testing.T, b []byte, want api.Errno, what string) {
	t.Helper()
	if d, err := frame.Decode(b); err != want || !none(d) || d.Body != nil {
		t.Errorf("%s: %s, error %d, not %d", what, shown(d), err, want)
	}
}

func TestDecodeTooFew(t *testing.T) {
	r := dice()
	reject(t, nil, api.ErrEnds, "nil")
	for n := range 6 {
		reject(t, make([]byte, n), api.ErrEnds, "bytes 0")
		reject(t, noise(r, n), api.ErrEnds, "any bytes")
		reject(t, encoded(t, ack(0, 1, 0))[:n], api.ErrEnds, "an ack cut off")
	}
	// with the right sum, too
	reject(t, summed(nil), api.ErrEnds, "a sum alone")
	for c := range 256 {
		reject(t, summed([]byte{byte(c)}), api.ErrEnds, "one byte")
	}
}

func TestDecodeSum(t *testing.T) {
	r := dice()
	for _, d := range ordinary() {
		b := encoded(t, d)
		for i := range 4 {
			o := bytes.Clone(b)
			o[len(o)-1-i] ^= byte(1 + r.IntN(255))
			reject(t, o, api.ErrSum, "another sum")
		}
		if len(b) > 6 {
			reject(t, b[:len(b)-1], api.ErrSum, "cut off")
			reject(t, b[1:], api.ErrSum, "cut off ahead")
		}
		reject(t, append(bytes.Clone(b), 0), api.ErrSum, "a byte more")
		reject(t, append([]byte{0}, b...), api.ErrSum, "a byte more ahead")
		turned := bytes.Clone(b)
		n := len(b) - 4
		for i := range 4 {
			turned[n+i] = b[len(b)-1-i]
		}
		if !bytes.Equal(turned, b) {
			reject(t, turned, api.ErrSum, "the sum's lowest byte first")
		}
	}
	// what the sum refuses is not looked at: neither a Kind that is none, nor what is left
	for _, text := range []string{head(0, 1, 1) + "1" + zeros(40), head(3, 0, 1) + zeros(80), head(1, 0, 1)} {
		b := sealed(text)
		b[len(b)-1] ^= 1
		reject(t, b, api.ErrSum, text)
	}
	reject(t, make([]byte, 6), api.ErrSum, "six bytes 0")
}

// Bits that end too early at each place, with the right sum behind them.
func TestDecodeEnds(t *testing.T) {
	for _, d := range []api.Datagram{ack(0, 1, 1<<20), data(0, 1, 1<<12, 1<<13, "abc"), data(15, 0, api.MaxTime, api.MaxTime, "abcdefgh"),
		data(3, 2, 0, 0, strings.Repeat("x", 300))} {
		b := encoded(t, d)
		told := b[:len(b)-4]
		for n := 2; n < len(told); n++ {
			reject(t, summed(told[:n]), api.ErrEnds, "cut off to whole bytes")
		}
	}
	at := head(api.DgData, 0, 1)
	for _, text := range []string{
		head(api.DgAck, 0, 1),                   // only bits 0 where Ack should be
		head(api.DgAck, 0, 1) + zeros(54),       // 54 bits 0
		head(api.DgAck, 0, 1) + zeros(53) + "1", // 54 bits behind the first 1 are not there
		at,                                      // no Ack
		at + nat(2),                             // no Seq
		at + nat(2) + zeros(51),                 // no Seq
		at + nat(14) + nat(6) + "0",             // no length: bits 0
		at + nat(0) + nat(0) + nat(1),           // no byte
		at + nat(0) + nat(0) + nat(2) + octets([]byte{1}),
		at + nat(0) + nat(0) + nat(api.MaxBody) + octets(make([]byte, api.MaxBody-5)),
		head(api.DgData, 4, 4) + nat(0) + nat(0) + nat(8), // what Check would refuse comes later
		at + nat(api.MaxTime+1) + nat(0) + nat(8),
	} {
		reject(t, sealed(text), api.ErrEnds, text[:min(len(text), 100)])
	}
}

// What says no number of 64 bits, at each place where a number stands.
func TestDecodeCode(t *testing.T) {
	over := code(new(big.Int).Add(new(big.Int).Lsh(big.NewInt(1), 64), big.NewInt(1)))
	for _, bad := range []string{zeros(65) + "1", zeros(100), over} {
		reject(t, sealed(head(api.DgAck, 0, 1)+bad), api.ErrCode, "Ack "+bad)
		reject(t, sealed(head(api.DgData, 0, 1)+bad), api.ErrCode, "Ack "+bad)
		reject(t, sealed(head(api.DgData, 0, 1)+nat(4)+bad), api.ErrCode, "Seq "+bad)
		reject(t, sealed(head(api.DgData, 0, 1)+nat(4)+nat(9)+bad), api.ErrCode, "length "+bad)
		reject(t, sealed(head(api.DgData, 6, 6)+nat(api.MaxTime+1)+bad), api.ErrCode, "length "+bad)
	}
}

// A Kind that is none is refused as soon as it was read, whatever follows.
func TestDecodeKind(t *testing.T) {
	for _, kind := range []int{0, 3} {
		for _, behind := range []string{nat(0), nat(5) + nat(6) + nat(0), zeros(6), zeros(80), "1" + zeros(40), nat(0) + "1", nat(1<<63 + 5)} {
			reject(t, sealed(head(kind, 0, 1)+behind), api.ErrFrame, behind)
			reject(t, sealed(head(kind, 2, 2)+behind), api.ErrFrame, behind)
		}
	}
}

// A length above MaxBody is refused as soon as it was read, whether or not the bytes are there.
func TestDecodeLength(t *testing.T) {
	at := head(api.DgData, 0, 1) + nat(3) + nat(4)
	for _, n := range []uint64{api.MaxBody + 1, api.MaxBody + 2, 1 << 20, 1 << 31, 1 << 32, 1 << 61, 1 << 63, 1<<64 - 1} {
		reject(t, sealed(at+nat(n)), api.ErrFrame, "no byte")
		reject(t, sealed(at+nat(n)+zeros(64)), api.ErrFrame, "some bytes")
		reject(t, sealed(at+nat(n)+"1"), api.ErrFrame, "a bit 1")
	}
	reject(t, sealed(at+nat(api.MaxBody+1)+octets(make([]byte, api.MaxBody+1))), api.ErrFrame, "all bytes")
	reject(t, sealed(at+nat(api.MaxBody)), api.ErrEnds, "MaxBody, and no byte")
	whole := sealed(at + nat(api.MaxBody) + octets(make([]byte, api.MaxBody)))
	if d, err := frame.Decode(whole); err != api.OK || len(d.Body) != api.MaxBody || d.Seq != 4 || d.Ack != 3 {
		t.Errorf("MaxBody bytes: %s, error %d", shown(d), err)
	}
}

// What is left: a whole byte, or a bit 1.
func TestDecodeMore(t *testing.T) {
	for _, d := range ordinary() {
		text := plain(d)
		fill := (8 - len(text)%8) % 8
		reject(t, sealed(text+zeros(fill+8)), api.ErrMore, "a byte 0 more")
		reject(t, sealed(text+zeros(fill)+"00000001"), api.ErrMore, "a byte more")
		reject(t, sealed(text+zeros(fill+8*9)), api.ErrMore, "nine bytes more")
		for i := range fill {
			reject(t, sealed(text+zeros(i)+"1"), api.ErrMore, "a bit 1 in what fills the last byte")
		}
	}
	// of an ack nothing follows its Ack
	reject(t, sealed(head(api.DgAck, 0, 1)+nat(1)+nat(0)), api.ErrMore, "an ack with a Seq")
	reject(t, sealed(head(api.DgAck, 0, 1)+nat(1)+nat(0)+nat(1)+octets([]byte("x"))), api.ErrMore, "an ack with a body")
	// it comes ahead of what Check refuses
	reject(t, sealed(head(api.DgAck, 3, 3)+nat(1)+"1"), api.ErrMore, "alike, and a bit 1")
	reject(t, sealed(head(api.DgData, 3, 4)+nat(api.MaxTime+1)+nat(0)+nat(0)+zeros(16)), api.ErrMore, "a great Ack, and a byte more")
}

// Fields that can be read, but that Check refuses.
func TestDecodeChecks(t *testing.T) {
	for n := range api.MaxBrokers {
		reject(t, sealed(head(api.DgAck, n, n)+nat(0)), api.ErrFrame, "alike")
		reject(t, sealed(head(api.DgData, n, n)+nat(0)+nat(0)+nat(1)+octets([]byte("x"))), api.ErrFrame, "alike")
	}
	great := []uint64{api.MaxTime + 1, api.MaxTime + 2, 1 << 41, 1<<63 - 1, 1 << 63, 1<<63 + 1, 1<<64 - 2, 1<<64 - 1, 1<<63 + api.MaxTime}
	for _, u := range great {
		reject(t, sealed(head(api.DgAck, 0, 1)+nat(u)), api.ErrFrame, "Ack")
		reject(t, sealed(head(api.DgData, 0, 1)+nat(u)+nat(0)+nat(0)), api.ErrFrame, "Ack")
		reject(t, sealed(head(api.DgData, 0, 1)+nat(0)+nat(u)+nat(1)+octets([]byte("x"))), api.ErrFrame, "Seq")
	}
}

// R3, R6: bytes are shared with nobody, and the same calls answer the same.
func TestMemory(t *testing.T) {
	room := []byte("body and more")
	d := data(0, 1, 2, 3, "")
	d.Body = room[:4]
	frame.Check(d)
	frame.Size(d)
	frame.Same(d, d)
	b, again := encoded(t, d), encoded(t, d)
	for i := range b {
		b[i] ^= 0xff
	}
	_ = append(b, "more"...)
	if third := encoded(t, d); !bytes.Equal(again, third) || !bytes.Equal(third, sealed(plain(d))) {
		t.Error("two calls' bytes are shared")
	}
	if string(room) != "body and more" {
		t.Errorf("the body was written to: %s", room)
	}

	in := append(bytes.Clone(again), "behind"...)[:len(again)]
	kept := bytes.Clone(in[:cap(in)])
	x, _ := frame.Decode(in)
	y, _ := frame.Decode(in)
	x.Body[0] = 'X'
	_ = append(x.Body, "XXXX"...)
	if !bytes.Equal(in[:cap(in)], kept) || string(y.Body) != "body" {
		t.Error("the answer is shared")
	}
	clear(in)
	if string(y.Body) != "body" {
		t.Error("what was handed in is kept")
	}
}
