package match_test

import (
	"bytes"
	"math/big"
	"slices"
	"strings"
	"testing"

	"eyrie/api"
	"eyrie/bits"
	"eyrie/event"
	"eyrie/match"
)

// P10.4

func TestFormExamples(t *testing.T) {
	for _, c := range []struct {
		p    api.Partial
		want []byte
	}{
		{api.Partial{}, []byte{0b00000000}},
		// 0001, no bytes: 1, of the event: 0000, 0: 1, 0: 1, A: 010 01000001, 0000
		{partial(bound("", ev(0, 0, 0))), []byte{0b00011000, 0b01101001, 0b00000100, 0b00000000}},
		// 0010; a: 010 01100001; 0000, 1: 010, 5: 00110, A, 0000; b: 010 01100010; 0001, 0: 1, 7: 0001000, A, 0000
		{partial(bound("a", ev(0, 1, 5)), bound("b", ev(1, 0, 7))), packed("0010" + "01001100001" + "0000" + "010" + "00110" + "01001000001" + "0000" +
			"01001100010" + "0001" + "1" + "0001000" + "01001000001" + "0000")},
	} {
		if b := byBytes(t, c.p); !bytes.Equal(b, c.want) {
			t.Errorf("%s: %08b, not %08b", shown(c.p), b, c.want)
		}
	}
}

func many() []api.Partial {
	l, r := ordinary(), dice()
	for range 3000 {
		l = append(l, some(r))
	}
	return l
}

func TestForm(t *testing.T) {
	for i, p := range many() {
		form := plain(p)
		if b := byBytes(t, p); !bytes.Equal(b, packed(form)) {
			t.Fatalf("%s: %x, not %x", shown(p), b, packed(form))
		}
		s := sinkOf(t, i%20)
		ahead := held(s)
		if err := match.Put(s, p); err != api.OK || held(s) != ahead+form {
			t.Fatalf("%s: error %d, put %s", shown(p), err, held(s))
		}
	}
}

func TestPutSeveral(t *testing.T) {
	s := bits.NewSink()
	var want strings.Builder
	l := many()[:600]
	for _, p := range l {
		if err := match.Put(s, p); err != api.OK {
			t.Fatalf("error %d", err)
		}
		want.WriteString(plain(p))
	}
	if held(s) != want.String() {
		t.Fatal("put in another form")
	}
	r := bits.NewSource(s.Out())
	for _, p := range l {
		if o, err := match.Take(r); err != api.OK || !alike(o, p) {
			t.Fatalf("%s, not %s: error %d", shown(o), shown(p), err)
		}
	}
	if err := r.End(); err != api.OK {
		t.Errorf("End: error %d", err)
	}
}

func TestPutRefuses(t *testing.T) {
	for _, c := range refused() {
		s := sinkOf(t, 13)
		was := held(s)
		if err := match.Put(s, c.p); err != c.want || held(s) != was {
			t.Errorf("%s: error %d, not %d; %d bits", shown(c.p), err, c.want, s.Len())
		}
		if b, err := match.Bytes(c.p); err != c.want || b != nil {
			t.Errorf("%s: error %d, not %d; %d bytes", shown(c.p), err, c.want, len(b))
		}
	}
}

// All of it has place, or nothing is put.
func TestPutLong(t *testing.T) {
	l := ordinary()
	for _, p := range []api.Partial{{}, partial(bound("", ev(0, 0, 0))), row(2), row(api.MaxTerms), l[len(l)-1]} {
		form := plain(p)
		s := sinkOf(t, api.MaxBits-len(form))
		if err := match.Put(s, p); err != api.OK || s.Len() != api.MaxBits || !strings.HasSuffix(held(s), form) {
			t.Errorf("a form of %d bits in as much room: error %d, Len %d", len(form), err, s.Len())
		}
		for _, room := range []int{0, 1, 3, len(form) / 2, len(form) - 9, len(form) - 8, len(form) - 1} {
			if room < 0 {
				continue
			}
			s := sinkOf(t, api.MaxBits-room)
			was := s.Out()
			if err := match.Put(s, p); err != api.ErrLong || s.Len() != api.MaxBits-room || !bytes.Equal(s.Out(), was) {
				t.Errorf("a form of %d bits in %d bits of room: error %d, Len %d", len(form), room, err, s.Len())
			}
		}
	}
	// Check's error comes ahead of it
	s := sinkOf(t, api.MaxBits)
	for _, c := range refused() {
		if err := match.Put(s, c.p); err != c.want {
			t.Errorf("%s: error %d, not %d", shown(c.p), err, c.want)
		}
	}
}

// R5: ErrMade comes ahead of all.
func TestSinksAndSourcesNotMade(t *testing.T) {
	var sink bits.Sink
	for _, s := range []*bits.Sink{nil, &sink} {
		for _, p := range []api.Partial{{}, row(2), row(13), partial(bound("1", api.Event{})), partial(bound("a", api.Event{}))} {
			if err := match.Put(s, p); err != api.ErrMade {
				t.Errorf("Put: error %d", err)
			}
		}
	}
	if sink.Len() != 0 || sink.Flags(true) != api.ErrMade {
		t.Error("a sink that no call made is one")
	}
	var source bits.Source
	for _, s := range []*bits.Source{nil, &source} {
		if p, err := match.Take(s); err != api.ErrMade || !none(p) {
			t.Errorf("Take: %s, error %d", shown(p), err)
		}
	}
}

// wantTaken asks Take of bits, and Parse of whole bytes, for what the chapter says of them; it tells what it says of Take's error.
func wantTaken(t *testing.T, text string) api.Errno {
	t.Helper()
	want, n, wantErr := taken(text)
	s := sourceOf(t, text)
	p, err := match.Take(s)
	if err != wantErr || !alike(p, want) || err != api.OK && !none(p) {
		t.Errorf("Take of %.200s: %s, error %d, not %s, error %d", text, shown(p), err, shown(want), wantErr)
	}
	if left := rest(s); left != text[n:] {
		t.Errorf("Take of %.200s: %d bits are left, not %d", text, len(left), len(text)-n)
	}
	wantParsed(t, text+zeros((8-len(text)%8)%8))
	return wantErr
}

func wantParsed(t *testing.T, text string) {
	t.Helper()
	want, wantErr := parsed(text)
	p, err := match.Parse(packed(text))
	if err != wantErr || !alike(p, want) || err != api.OK && !none(p) {
		t.Errorf("Parse of %.200s: %s, error %d, not %s, error %d", text, shown(p), err, shown(want), wantErr)
	}
}

// wantRefused asks for an error of Take, with nothing taken.
func wantRefused(t *testing.T, text string, want api.Errno) {
	t.Helper()
	s := sourceOf(t, text)
	if p, err := match.Take(s); err != want || !none(p) || rest(s) != text {
		t.Errorf("Take of %.200s: %s, error %d, not %d", text, shown(p), err, want)
	}
	if got := wantTaken(t, text); got != want {
		t.Errorf("%.200s: error %d, not %d", text, got, want)
	}
}

func TestTake(t *testing.T) {
	for i, p := range many() {
		behind := []string{"", "0", "1", "1111111", "00000000", zeros(200), "0000000101"}[i%7]
		s := sourceOf(t, plain(p)+behind)
		if o, err := match.Take(s); err != api.OK || !alike(o, p) || rest(s) != behind {
			t.Fatalf("%s, not %s: error %d", shown(o), shown(p), err)
		}
		wantTaken(t, plain(p)+behind)
	}
}

// Bits that end at any place.
func TestTakeEnds(t *testing.T) {
	p := partial(bound("a", ev(0, 1, 5)), bound("bb", ev(15, 1<<12, api.MaxTime, full()[:3]...)), bound("c", ev(1, 2, 3, attr("x", num(-9)), attr("y", str("yy")))))
	for _, p := range []api.Partial{{}, partial(bound("", ev(0, 0, 0))), p, row(api.MaxTerms)} {
		form := plain(p)
		for n := range len(form) {
			wantRefused(t, form[:n], api.ErrEnds)
		}
	}
	// what Check would refuse comes behind it
	good := plainEvent(ev(0, 0, 0))
	for _, s := range []string{"0001" + text("1"), "0001" + text("1") + good[:len(good)-1], "0010" + text("b") + good + text("a"), "0010" + text("a") + good + text("a") + good[:5],
		"0010" + text("") + good, "0010" + text("a") + good + text("a") + "0000" + "11" + text("A") + "000", "1100" + strings.Repeat(text("a")+good, 11), "0001" + nat(1<<62) + zeros(70), "0001" + nat(1<<64-1) + zeros(70)} {
		wantRefused(t, s, api.ErrEnds)
	}
}

// What says no number of 64 bits, at each place where a number stands.
func TestTakeCode(t *testing.T) {
	over := code(new(big.Int).Add(new(big.Int).Lsh(big.NewInt(1), 64), big.NewInt(1)))
	one := "0011" + text("a") + plainEvent(ev(1, 2, 3))
	for _, bad := range []string{zeros(65), zeros(65) + "1", zeros(300), over, over + "1"} {
		for _, ahead := range []string{"0001", one, "0001" + text("a") + "0000", "0001" + text("") + "0000" + nat(5), one + text("b") + "0001", one + text("b") + "0001" + nat(1) + nat(2), one + text("b") + "0001" + nat(1) + nat(2) + text("A") + "0001",
			"0010" + text("1") + plainEvent(ev(0, 0, 0)), "0010" + text("b") + plainEvent(ev(0, 0, 0)) + text("a") + "0001"} {
			wantRefused(t, ahead+bad, api.ErrCode)
		}
	}
}

// More bounds than may be are refused as soon as their number was read.
func TestTakeOfTooMany(t *testing.T) {
	for many := api.MaxTerms + 1; many < 16; many++ {
		for _, behind := range []string{"", "1", zeros(7), zeros(100), strings.Repeat("1", 100), strings.Repeat(text("a")+plainEvent(ev(0, 0, 0)), many), plain(row(12))[4:]} {
			wantRefused(t, wide(many, 4)+behind, api.ErrPartial)
		}
	}
}

// event's errors are told where they stand: ahead of what comes behind, and of what Check says of all.
func TestTakeOfBadEvents(t *testing.T) {
	good := plainEvent(ev(0, 0, 0))
	head := "0101" + nat(2) + nat(3) + text("A")
	for _, c := range []struct {
		event string
		want  api.Errno
	}{
		{"0101" + nat(api.MaxTime+1) + nat(3) + text("A") + "0000", api.ErrEvent}, {"0101" + nat(2) + nat(1<<64-1) + text("A") + "0000", api.ErrEvent},
		{"0101" + nat(2) + nat(3) + text("") + "0000", api.ErrEvent}, {"0101" + nat(2) + nat(3) + text("1") + "0000", api.ErrEvent}, {head + "1001", api.ErrEvent}, {head + "1111", api.ErrEvent},
		{head + "0001" + text("x") + "00", api.ErrEvent}, {head + "0001" + text("x") + "11", api.ErrEvent}, {head + "0001" + text("") + "01" + number(1), api.ErrName},
		{head + "0001" + text("x") + "10" + text(strings.Repeat("a", api.MaxString+1)), api.ErrValue}, {head + "0010" + text("b") + "01" + number(1) + text("a") + "01" + number(1), api.ErrOrder},
	} {
		for _, ahead := range []string{"0001" + text("a"), "0010" + text("a"), "1100" + text(""), "0001" + text("1"), "0010" + text("a") + good + text("a"), "0011" + text("") + good + text("b"), "0010" + text("b") + good + text("a")} {
			for _, behind := range []string{"", "1", zeros(100), text("c") + good, text("") + good} {
				wantRefused(t, ahead+c.event+behind, c.want)
			}
		}
	}
}

// What can be read, but Check refuses.
func TestTakeChecks(t *testing.T) {
	one, two, three := plainEvent(ev(0, 0, 0)), plainEvent(ev(0, 1, 0)), plainEvent(ev(1, 0, 0))
	for _, s := range append(badNames(), strings.Repeat("a", 20000)) {
		wantRefused(t, "0001"+text(s)+one, api.ErrPartial)
		wantRefused(t, "0010"+text("A")+one+text(s)+two, api.ErrPartial)
		wantRefused(t, "0010"+text(s)+one+text("zz")+two, api.ErrPartial)
	}
	for _, l := range [][3]string{{"", "a", "b"}, {"a", "", "b"}, {"a", "b", ""}, {"a", "a", "b"}, {"a", "b", "b"}, {"a", "b", "a"}, {"b", "a", "c"}, {"a", "c", "b"}, {"c", "b", "a"}, {"a", "b", "Z"}} {
		for _, behind := range []string{"", "1", zeros(30)} {
			wantRefused(t, "0011"+text(l[0])+one+text(l[1])+two+text(l[2])+three+behind, api.ErrPartial)
		}
	}
	for _, l := range [][3]string{{one, one, two}, {one, two, one}, {two, one, one}, {one, two, plainEvent(ev(0, 0, 9, attr("x", num(1))))}} {
		wantRefused(t, "0011"+text("a")+l[0]+text("b")+l[1]+text("c")+l[2], api.ErrPartial)
	}
	wantRefused(t, "0010"+text("")+one+text("")+two, api.ErrPartial)
}

// What is left behind a partial match: a whole byte, or a bit 1.
func TestParseMore(t *testing.T) {
	for _, p := range ordinary() {
		form := plain(p)
		fill := (8 - len(form)%8) % 8
		l := []string{form + zeros(fill+8), form + zeros(fill) + "00000001", form + zeros(fill+800), form + zeros(fill) + plain(row(1)) + zeros(8)}
		for i := range fill {
			l = append(l, form+zeros(i)+"1"+zeros(fill-i-1))
		}
		for _, s := range l {
			if o, err := match.Parse(packed(s)); err != api.ErrMore || !none(o) {
				t.Fatalf("%s and more: %s, error %d", shown(p), shown(o), err)
			}
		}
		if o, err := match.Parse(packed(form)); err != api.OK || !alike(o, p) {
			t.Fatalf("%s: %s, error %d", shown(p), shown(o), err)
		}
	}
	// Take's errors come ahead of it
	for s, want := range map[string]api.Errno{
		"1101" + zeros(60): api.ErrPartial, "0001" + text("1") + plainEvent(ev(0, 0, 0)) + zeros(40): api.ErrPartial,
		"0001" + text("a") + plainEvent(ev(0, 0, 0))[:18] + "1001" + zeros(40): api.ErrEvent, "0001" + zeros(100): api.ErrCode,
	} {
		if o, err := match.Parse(packed(s)); err != want || !none(o) {
			t.Errorf("%s: %s, error %d, not %d", s, shown(o), err, want)
		}
	}
	for _, b := range [][]byte{nil, {}, {0x10}, {0x1f}, {0x20, 0, 0}} {
		if o, err := match.Parse(b); err != api.ErrEnds || !none(o) {
			t.Errorf("%v: %s, error %d", b, shown(o), err)
		}
	}
	if o, err := match.Parse(append([]byte{0x10}, make([]byte, 1<<16)...)); err != api.ErrCode || !none(o) {
		t.Errorf("many bytes 0: %s, error %d", shown(o), err)
	}
}

// cut is text without the n bits behind the first at ones, and with other ones there.
func cut(text string, at, n int, other string) string {
	return text[:at] + other + text[min(at+n, len(text)):]
}

// turned is text with the bit at a place turned.
func turned(text string, at int) string { return cut(text, at, 1, string('0'+'1'-text[at])) }

// Forms that were spoilt.
func TestSpoiltForms(t *testing.T) {
	r, told := dice(), counted[api.Errno]{}
	for range 30000 {
		form := plain(some(r))
		for range 1 + r.IntN(2) {
			at := r.IntN(len(form))
			switch r.IntN(5) {
			case 0:
				form = cut(form, at, r.IntN(20), "")
			case 1:
				form = cut(form, at, r.IntN(3), zeros(r.IntN(70)))
			case 2:
				form = wide(r.IntN(16), 4) + form[min(4, len(form)):]
			default:
				form = turned(form, at)
			}
			if form == "" {
				form = "0"
			}
		}
		told[wantTaken(t, form)]++
	}
	told.many(t, "Take", 30, api.OK, api.ErrEnds, api.ErrCode, api.ErrEvent, api.ErrPartial, api.ErrName, api.ErrOrder)
}

// Forms of partial matches that may not be, as if Check took them.
func TestFormsOfRefused(t *testing.T) {
	r, told := dice(), counted[api.Errno]{}
	for range 20000 {
		p := spoilt(r)
		if len(p.Bounds) > 15 || slices.ContainsFunc(p.Bounds, func(b api.Bound) bool { return event.Check(b.Event) != api.OK }) {
			continue
		}
		told[wantTaken(t, plain(p)+pick(r, "", "1", zeros(9)))]++
	}
	told.many(t, "Take", 1000, api.OK, api.ErrPartial)
}
