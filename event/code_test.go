package event_test

import (
	"bytes"
	"math/big"
	"slices"
	"strings"
	"testing"

	"eyrie/api"
	"eyrie/bits"
	"eyrie/event"
)

// P4.2

// byBytes is an event's bytes; it fails if there are none.
func byBytes(t *testing.T, e api.Event) []byte {
	t.Helper()
	b, err := event.Bytes(e)
	if err != api.OK {
		t.Fatalf("%#v: error %d", e, err)
	}
	return b
}

func TestFormExamples(t *testing.T) {
	// Source 0, Seq 0: 1, Time 0: 1, Type A: 010 01000001, no Attrs: 0000
	if b := byBytes(t, ev(0, 0, 0)); !bytes.Equal(b, []byte{0b00001101, 0b00100000, 0b10000000}) {
		t.Errorf("%08b", b)
	}
	// 0101, 1: 010, 3: 00100, A, 0001, x: 010 01111000, VInt: 01, -1: 010
	want := []byte{0b01010100, 0b01000100, 0b10000010, 0b00101001, 0b11100001, 0b01000000}
	if b := byBytes(t, ev(5, 1, 3, attr("x", num(-1)))); !bytes.Equal(b, want) {
		t.Errorf("%08b, not %08b", b, want)
	}
	// 1111, 0: 1, 0: 1, A, 0001, x, VStr: 10, of a byte: 010 11111111
	want = []byte{0b11111101, 0b00100000, 0b10001010, 0b01111000, 0b10010111, 0b11111000}
	if b := byBytes(t, ev(15, 0, 0, attr("x", str("\xff")))); !bytes.Equal(b, want) {
		t.Errorf("%08b, not %08b", b, want)
	}
}

func many() []api.Event {
	l, r := ordinary(), dice()
	for range 2000 {
		l = append(l, some(r))
	}
	return l
}

func TestForm(t *testing.T) {
	for i, e := range many() {
		form := plain(e)
		if b := byBytes(t, e); !bytes.Equal(b, packed(form)) {
			t.Fatalf("%#v: %x, not %x", e, b, packed(form))
		}
		s := sinkOf(t, i%20)
		ahead := held(s)
		if err := event.Put(s, e); err != api.OK || held(s) != ahead+form {
			t.Fatalf("%#v: error %d, put %s", e, err, held(s))
		}
	}
}

func TestPutSeveral(t *testing.T) {
	s, want := bits.NewSink(), ""
	l := many()[:600]
	for _, e := range l {
		if err := event.Put(s, e); err != api.OK {
			t.Fatalf("error %d", err)
		}
		want += plain(e)
	}
	if held(s) != want {
		t.Fatal("put in another form")
	}
	r := bits.NewSource(s.Out())
	for _, e := range l {
		if o, err := event.Take(r); err != api.OK || !alike(o, e) {
			t.Fatalf("%#v, not %#v: error %d", o, e, err)
		}
	}
	if err := r.End(); err != api.OK {
		t.Errorf("End: error %d", err)
	}
}

func TestPutRefuses(t *testing.T) {
	for _, c := range refused() {
		s := sinkOf(t, 13)
		was := held(s)
		if err := event.Put(s, c.e); err != c.want || held(s) != was {
			t.Errorf("%#v: error %d, not %d; %d bits", c.e, err, c.want, s.Len())
		}
		if b, err := event.Bytes(c.e); err != c.want || b != nil {
			t.Errorf("%#v: error %d, not %d; %d bytes", c.e, err, c.want, len(b))
		}
	}
}

// All of an event has place, or nothing is put.
func TestPutLong(t *testing.T) {
	l := []api.Event{ev(0, 0, 0), ev(3, 1<<30, 1<<20, full()...), ev(1, 2, 3, attr("a", num(4)), attr("b", str("c")))}
	for _, e := range l {
		form := plain(e)
		s := sinkOf(t, api.MaxBits-len(form))
		if err := event.Put(s, e); err != api.OK || s.Len() != api.MaxBits || !strings.HasSuffix(held(s), "0"+form) && !strings.HasSuffix(held(s), "1"+form) {
			t.Errorf("a form of %d bits in as much room: error %d, Len %d", len(form), err, s.Len())
		}
		for _, room := range []int{0, 1, 4, 5, len(form) / 2, len(form) - 8, len(form) - 1} {
			s := sinkOf(t, api.MaxBits-room)
			was := s.Out()
			if err := event.Put(s, e); err != api.ErrLong || s.Len() != api.MaxBits-room || !bytes.Equal(s.Out(), was) {
				t.Errorf("a form of %d bits in %d bits of room: error %d, Len %d", len(form), room, err, s.Len())
			}
		}
	}
	// Check's error comes ahead of it
	s := sinkOf(t, api.MaxBits)
	for _, c := range refused()[:30] {
		if err := event.Put(s, c.e); err != c.want {
			t.Errorf("error %d, not %d", err, c.want)
		}
	}
}

// R5: ErrMade comes ahead of all.
func TestSinksAndSourcesNotMade(t *testing.T) {
	var sink bits.Sink
	for _, s := range []*bits.Sink{nil, &sink} {
		for _, e := range []api.Event{ev(0, 0, 0), {}, ev(0, 0, 0, make([]api.Attr, 9)...)} {
			if err := event.Put(s, e); err != api.ErrMade {
				t.Errorf("Put: error %d", err)
			}
		}
	}
	if sink.Len() != 0 || sink.Flags(true) != api.ErrMade {
		t.Error("a sink that no call made is one")
	}
	var source bits.Source
	for _, s := range []*bits.Source{nil, &source} {
		if e, err := event.Take(s); err != api.ErrMade || !none(e) {
			t.Errorf("Take: %#v, error %d", e, err)
		}
	}
}

// wantTaken asks Take of bits, and Parse of whole bytes, for what the chapter says of them.
func wantTaken(t *testing.T, text string) api.Errno {
	t.Helper()
	want, n, wantErr := taken(text)
	s := sourceOf(t, text)
	e, err := event.Take(s)
	if err != wantErr || !alike(e, want) || err != api.OK && !none(e) {
		t.Errorf("Take of %.200s: %#v, error %d, not %#v, error %d", text, e, err, want, wantErr)
	}
	if left := rest(s); left != text[n:] {
		t.Errorf("Take of %.200s: %d bits are left, not %d", text, len(left), len(text)-n)
	}
	whole := text + zeros((8-len(text)%8)%8)
	want, wantErr = parsed(whole)
	e, err = event.Parse(packed(whole))
	if err != wantErr || !alike(e, want) || err != api.OK && !none(e) {
		t.Errorf("Parse of %.200s: %#v, error %d, not %#v, error %d", whole, e, err, want, wantErr)
	}
	return wantErr
}

// wantRefused asks for an error of Take, whatever follows.
func wantRefused(t *testing.T, text string, want api.Errno) {
	t.Helper()
	s := sourceOf(t, text)
	if e, err := event.Take(s); err != want || !none(e) || rest(s) != text {
		t.Errorf("Take of %.200s: %#v, error %d, not %d", text, e, err, want)
	}
	wantTaken(t, text)
}

func TestTake(t *testing.T) {
	for i, e := range many() {
		behind := []string{"", "0", "1", "1111111", "00000000", zeros(200), "0000000101"}[i%7]
		s := sourceOf(t, plain(e)+behind)
		if o, err := event.Take(s); err != api.OK || !alike(o, e) || !event.Same(o, e) || rest(s) != behind {
			t.Fatalf("%#v, not %#v: error %d", o, e, err)
		}
		wantTaken(t, plain(e)+behind)
	}
}

// Bits that end at any place: with nothing taken.
func TestTakeEnds(t *testing.T) {
	for _, e := range []api.Event{ev(0, 0, 0), ev(3, 1<<12, api.MaxTime, full()...), ev(15, 1, 2, attr("x", num(-9)), attr("y", str("yy")))} {
		form := plain(e)
		for n := range len(form) {
			wantRefused(t, form[:n], api.ErrEnds)
		}
	}
	// what Check would refuse comes behind it
	for _, text := range []string{
		head(0, api.MaxTime+1, 0, "A"), head(0, 0, 1<<63, "A") + "000", head(0, 0, 0, ""), head(0, 0, 0, "1"),
		head(0, 0, 0, "") + "0001", head(0, 0, 0, "A") + "0001" + text("") + "0", head(0, 0, 0, "A") + "0001" + text("") + "01",
		head(0, 0, 0, "A") + "0010" + text("b") + "011" + text("a") + "10", head(0, 0, 0, "A") + "0010" + text("b") + "011",
		"0000" + "11" + nat(1<<62) + zeros(70), "0000" + "11" + nat(1<<64-1) + zeros(70)} {
		wantRefused(t, text, api.ErrEnds)
	}
}

// What says no number of 64 bits, at each place where a number stands.
func TestTakeCode(t *testing.T) {
	over := code(new(big.Int).Add(new(big.Int).Lsh(big.NewInt(1), 64), big.NewInt(1)))
	attrs := head(1, 2, 3, "A") + "0010" + text("x")
	for _, bad := range []string{zeros(65), zeros(65) + "1", zeros(300), over, over + "1"} {
		for _, ahead := range []string{"0000", "0000" + nat(5), "0000" + nat(5) + nat(6), head(1, 2, 3, "A") + "0001", attrs + "01", attrs + "10",
			attrs + "01" + number(3), "0000" + nat(1<<63), head(0, api.Forever, 0, "") + "0001"} {
			wantRefused(t, ahead+bad, api.ErrCode)
		}
	}
}

// More attributes than may be, and Kinds that are none, are refused as soon as they were read.
func TestTakeRefusesAtOnce(t *testing.T) {
	for many := api.MaxAttrs + 1; many < 16; many++ {
		for _, behind := range []string{"", "1", zeros(7), zeros(100), strings.Repeat("1", 100), text("x") + "01" + number(1)} {
			wantRefused(t, head(1, 2, 3, "A")+wide(many, 4)+behind, api.ErrEvent)
			wantRefused(t, head(1, api.Forever, 3, "")+wide(many, 4)+behind, api.ErrEvent)
		}
	}
	for _, kind := range []string{"00", "11"} {
		for _, behind := range []string{"", "1", zeros(100), text("y") + "1", number(1)} {
			wantRefused(t, head(1, 2, 3, "A")+"0001"+text("x")+kind+behind, api.ErrEvent)
			wantRefused(t, head(1, 2, 3, "A")+"0010"+text("b")+"01"+number(5)+text("a")+kind+behind, api.ErrEvent)
			// a name that may not be is told behind it
			wantRefused(t, head(1, 2, 3, "A")+"0001"+text("")+kind+behind, api.ErrEvent)
		}
	}
}

// What can be read, but Check refuses.
func TestTakeChecks(t *testing.T) {
	one := "0001" + text("x") + "01" + number(1)
	for _, u := range []uint64{api.MaxTime + 1, api.MaxTime + 2, 1 << 41, 1<<63 - 1, 1 << 63, 1<<63 + 1, 1<<63 + api.MaxTime, 1<<64 - 2, 1<<64 - 1} {
		for _, behind := range []string{"0000", one, "0001" + text("") + "01" + number(1)} {
			wantRefused(t, head(1, u, 3, "A")+behind, api.ErrEvent)
			wantRefused(t, head(1, 2, u, "A")+behind, api.ErrEvent)
			wantRefused(t, head(1, u, u, "A")+behind, api.ErrEvent)
		}
	}
	for _, s := range []string{"", "1", "a b", "\x00", strings.Repeat("a", api.MaxName+1), strings.Repeat("a", 5000)} {
		wantRefused(t, head(1, 2, 3, s)+one, api.ErrEvent)
		wantRefused(t, head(1, 2, 3, "A")+"0001"+text(s)+"01"+number(1), api.ErrName)
		wantRefused(t, head(1, 2, 3, "A")+"0010"+text("A")+"01"+number(1)+text(s)+"10"+text("y"), api.ErrName)
	}
	for _, n := range []int{api.MaxString + 1, 5000} {
		wantRefused(t, head(1, 2, 3, "A")+"0001"+text("x")+"10"+text(strings.Repeat("a", n)), api.ErrValue)
	}
	for _, s := range []string{"b", "a", "Z", "_"} {
		wantRefused(t, head(1, 2, 3, "A")+"0010"+text("b")+"01"+number(1)+text(s)+"01"+number(2), api.ErrOrder)
	}
}

// What is left behind an event: a whole byte, or a bit 1.
func TestParseMore(t *testing.T) {
	for _, e := range ordinary() {
		form := plain(e)
		fill := (8 - len(form)%8) % 8
		l := []string{form + zeros(fill+8), form + zeros(fill) + "00000001", form + zeros(fill+800)}
		for i := range fill {
			l = append(l, form+zeros(i)+"1"+zeros(fill-i-1))
		}
		for _, text := range l {
			if o, err := event.Parse(packed(text)); err != api.ErrMore || !none(o) {
				t.Fatalf("%s: %#v, error %d", text, o, err)
			}
		}
		if o, err := event.Parse(packed(form)); err != api.OK || !alike(o, e) {
			t.Fatalf("%s: %#v, error %d", form, o, err)
		}
	}
	// Take's errors come ahead of it
	for text, want := range map[string]api.Errno{
		head(1, 2, 3, "") + "0000" + strings.Repeat("1", 30):                              api.ErrEvent,
		head(1, 2, 3, "A") + "0001" + text("") + "01" + number(1) + zeros(40):             api.ErrName,
		head(1, 2, 3, "A") + "1001" + zeros(40):                                           api.ErrEvent,
		head(1, 2, 3, "A") + "0001" + text("x") + "10" + text(zeros(65)) + "1" + zeros(9): api.ErrValue,
	} {
		if o, err := event.Parse(packed(text)); err != want || !none(o) {
			t.Errorf("%s: %#v, error %d, not %d", text, o, err, want)
		}
	}
	for _, b := range [][]byte{nil, {}, {0}, {255}, {0, 0, 0}} {
		if o, err := event.Parse(b); err != api.ErrEnds || !none(o) {
			t.Errorf("%v: %#v, error %d", b, o, err)
		}
	}
	if o, err := event.Parse(make([]byte, 1<<16)); err != api.ErrCode || !none(o) {
		t.Errorf("many bytes 0: %#v, error %d", o, err)
	}
}

// Forms that were spoilt.
func TestSpoiltForms(t *testing.T) {
	r, told := dice(), map[api.Errno]int{}
	for range 30000 {
		form := plain(some(r))
		for range 1 + r.IntN(2) {
			at := r.IntN(len(form))
			switch r.IntN(4) {
			case 0:
				form = cut(form, at, r.IntN(20), "")
			case 1:
				form = cut(form, at, r.IntN(3), zeros(r.IntN(70)))
			default:
				form = turned(form, at, r.IntN(len(form)))
			}
			if form == "" {
				form = "0"
			}
		}
		told[wantTaken(t, form)]++
	}
	for _, err := range []api.Errno{api.OK, api.ErrEnds, api.ErrCode, api.ErrEvent, api.ErrName, api.ErrOrder} {
		if told[err] < 20 {
			t.Errorf("error %d came only %d times", err, told[err])
		}
	}
}

// R3, R6: bytes are shared with nobody, and the same calls answer the same.
func TestBytesAreNobodysElse(t *testing.T) {
	e := ev(1, 2, 3, full()...)
	b, again := byBytes(t, e), byBytes(t, e)
	for i := range b {
		b[i] ^= 0xff
	}
	if !bytes.Equal(again, packed(plain(e))) {
		t.Error("two calls' bytes are shared")
	}
	in := append(slices.Clone(again), "behind"...)
	was := slices.Clone(in)
	x, _ := event.Parse(in[:len(again)])
	y, _ := event.Parse(in[:len(again)])
	if !bytes.Equal(in, was) {
		t.Error("what was handed in was written to")
	}
	clear(in)
	x.Attrs[0] = api.Attr{}
	_ = append(x.Attrs[:1], make([]api.Attr, 7)...)
	if !alike(y, e) {
		t.Errorf("%#v, not %#v", y, e)
	}
}
