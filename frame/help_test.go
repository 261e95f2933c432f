package frame_test

import (
	"bytes"
	"hash/crc32"
	"math/big"
	mathbits "math/bits"
	"math/rand/v2"
	"slices"
	"strconv"
	"strings"

	"eyrie/api"
)

// dice are the same at each run.
func dice() *rand.Rand { return rand.New(rand.NewPCG(20, 21)) }

// crc is the chapter's sum, by way of the library's: that one takes the lowest bits first, where the chapter takes the highest ones.
func crc(b []byte) uint32 {
	turned := make([]byte, len(b))
	for i, c := range b {
		turned[i] = mathbits.Reverse8(c)
	}
	return mathbits.Reverse32(crc32.ChecksumIEEE(turned))
}

// sealed is bits ('0' and '1') up to the end of a byte, and their sum.
func sealed(text string) []byte {
	text += strings.Repeat("0", (8-len(text)%8)%8)
	b := make([]byte, len(text)/8)
	for i := range text {
		b[i/8] = b[i/8]<<1 | (text[i] - '0')
	}
	return summed(b)
}

// summed is bytes, and their sum behind them.
func summed(b []byte) []byte {
	s := crc(b)
	return append(slices.Clone(b), byte(s>>24), byte(s>>16), byte(s>>8), byte(s))
}

// nat is the code of a natural number, as '0' and '1'.
func nat(u uint64) string {
	v := new(big.Int).SetUint64(u)
	return code(v.Add(v, big.NewInt(1)))
}

// code is the code that says the natural number v - 1.
func code(v *big.Int) string { return zeros(v.BitLen()-1) + v.Text(2) }

func zeros(n int) string { return strings.Repeat("0", n) }

// wide is u in n bits.
func wide(u, n int) string {
	t := strconv.FormatInt(int64(u), 2)
	return zeros(n-len(t)) + t
}

// head is the bits of a Kind, From and To.
func head(kind, from, to int) string { return wide(kind, 2) + wide(from, 4) + wide(to, 4) }

// octets is bytes, each in 8 bits.
func octets(b []byte) string {
	var t strings.Builder
	for _, c := range b {
		t.WriteString(wide(int(c), 8))
	}
	return t.String()
}

// plain is the chapter's form of a datagram without what fills its last byte, and without its sum.
func plain(d api.Datagram) string {
	t := head(d.Kind, d.From, d.To) + nat(uint64(d.Ack))
	if d.Kind == api.DgData {
		t += nat(uint64(d.Seq)) + nat(uint64(len(d.Body))) + octets(d.Body)
	}
	return t
}

func data(from, to int, seq, ack int64, body string) api.Datagram {
	return api.Datagram{From: from, To: to, Kind: api.DgData, Seq: seq, Ack: ack, Body: []byte(body)}
}

func ack(from, to int, ack int64) api.Datagram {
	return api.Datagram{From: from, To: to, Kind: api.DgAck, Ack: ack}
}

// ordinary are datagrams that may be, with the edges that the chapter names.
func ordinary() []api.Datagram {
	l := []api.Datagram{
		data(0, 1, 0, 0, ""), data(1, 0, 1, 0, "x"), data(2, 9, 12, 7, "a body"), data(14, 15, 3, 4, "\x00\xff\x00"),
		data(0, api.MaxBrokers-1, api.MaxTime, api.MaxTime, "end"), data(api.MaxBrokers-1, 0, api.MaxTime, 0, ""),
		data(4, 5, 0, api.MaxTime, strings.Repeat("\xff", 300)),
		data(3, 2, 1<<20, 1<<30, strings.Repeat("long", api.MaxBody/4)),
		{From: 5, To: 6, Kind: api.DgData, Seq: 9, Ack: 9},
		ack(0, 1, 0), ack(1, 0, 0), ack(7, 8, 1), ack(0, api.MaxBrokers-1, api.MaxTime), ack(api.MaxBrokers-1, 0, 1000),
		{From: 5, To: 6, Kind: api.DgAck, Ack: 2, Body: []byte{}},
	}
	for k := range 41 {
		n := int64(1) << k
		l = append(l, ack(3, 4, n), ack(3, 4, n-1), data(3, 4, n, n-1, "k"), data(3, 4, n-1, n, "kk"))
	}
	for n := range 70 {
		l = append(l, data(n%16, (n+1)%16, int64(n), int64(70-n), strings.Repeat("b", n)))
	}
	return l
}

// some is a datagram that may be, by chance.
func some(r *rand.Rand) api.Datagram {
	d := api.Datagram{From: r.IntN(api.MaxBrokers), Kind: api.DgAck, Ack: r.Int64N(api.MaxTime+1) >> r.IntN(41)}
	d.To = (d.From + 1 + r.IntN(api.MaxBrokers-1)) % api.MaxBrokers
	if r.IntN(3) > 0 {
		d.Kind, d.Seq, d.Body = api.DgData, r.Int64N(api.MaxTime+1)>>r.IntN(41), noise(r, r.IntN(40))
	}
	return d
}

func noise(r *rand.Rand, n int) []byte {
	b := make([]byte, n)
	for i := range b {
		b[i] = byte(r.Uint32())
	}
	return b
}

// alike tells of two datagrams whether they are the same, as Same should.
func alike(a, b api.Datagram) bool {
	return a.From == b.From && a.To == b.To && a.Kind == b.Kind && a.Seq == b.Seq && a.Ack == b.Ack &&
		bytes.Equal(a.Body, b.Body)
}

// none tells whether a datagram is the zero value.
func none(d api.Datagram) bool { return alike(d, api.Datagram{}) }

// shown tells of a datagram in a few words.
func shown(d api.Datagram) string {
	b := d.Body[:min(len(d.Body), 20)]
	return strings.Join([]string{"kind " + strconv.Itoa(d.Kind), strconv.Itoa(d.From) + " to " + strconv.Itoa(d.To),
		"seq " + strconv.FormatInt(d.Seq, 10), "ack " + strconv.FormatInt(d.Ack, 10),
		strconv.Itoa(len(d.Body)) + " bytes " + strconv.Quote(string(b))}, ", ")
}
