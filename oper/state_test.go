package oper_test

import (
	"bytes"
	"math/big"
	"slices"
	"strings"
	"testing"

	"eyrie/api"
	"eyrie/oper"
)

// P14.4

func TestSnapshotExamples(t *testing.T) {
	x := made(t, op(api.OpSeq, 2, 5))
	fed(t, x, 0, some(t, "a0.0@1, a0.1@0")...)
	fed(t, x, 1, one(t, "b1.0@3"))
	marked(t, x, 1, 4)
	// marks 0 and 4: 1, 00101; two: 011, each: 0001, a: 010 01100001; 0000, 0: 1, 1: 010, A: 010 01000001, 0000; one: 010, ..
	want := "1" + "00101" + "011" + "0001" + "01001100001" + "0000" + "1" + "010" + "01001000001" + "0000" + "0001" + "01001100001" + "0000" + "010" + "1" + "01001000001" + "0000" +
		"010" + "0001" + "01001100010" + "0001" + "1" + "00100" + "01001000001" + "0000"
	if b := snapshot(t, x); !bytes.Equal(b, packed(want)) {
		t.Errorf("%08b, not %08b", b, packed(want))
	}
	for want, o := range map[string]api.Op{"11": term("a", nil, nil), "1111": op(api.OpOr, 2, 5), "111111": op(api.OpAnd, 3, 5)} {
		if b := snapshot(t, made(t, o)); !bytes.Equal(b, packed(want)) {
			t.Errorf("%v: %08b", o, b)
		}
	}
}

// wantRestored asks Restore for what the chapter says of bytes; it tells the error.
func wantRestored(t *testing.T, o api.Op, b []byte) api.Errno {
	t.Helper()
	m, want := modelRestore(o, b)
	x, err := oper.Restore(o, b)
	if err != want || (x != nil) != (want == api.OK) {
		t.Fatalf("%v, %x: error %d, not %d", o, b[:min(len(b), 100)], err, want)
	}
	if want == api.OK {
		wantModel(t, x, m)
		if !bytes.Equal(snapshot(t, x), b) {
			t.Fatalf("%v, %x: another state", o, b[:min(len(b), 100)])
		}
	}
	return err
}

func wantNotRestored(t *testing.T, o api.Op, bits string, want api.Errno) {
	t.Helper()
	if x, err := oper.Restore(o, packed(bits)); x != nil || err != want {
		t.Errorf("%v, %.200s: error %d, not %d", o, bits, err, want)
	}
	if err := wantRestored(t, o, packed(bits)); err != want {
		t.Errorf("%v, %.200s: error %d, not %d", o, bits, err, want)
	}
}

// fine is a state of an OpAnd of two inputs: its marks, and what is kept.
func fine(t *testing.T) (o api.Op, marks, first, second string) {
	l := some(t, "a0.0@5, a0.1@6:7 b0.2@9, b0.3@5")
	return op(api.OpAnd, 2, 5), nat(10) + nat(11), list(l...), list(one(t, "c1.1@7"))
}

func TestRestore(t *testing.T) {
	o, marks, first, second := fine(t)
	x := restored(t, o, packed(marks+first+second))
	wantKept(t, x, 0, some(t, "a0.0@5, a0.1@6:7 b0.2@9, b0.3@5")...)
	wantKept(t, x, 1, one(t, "c1.1@7"))
	if x.At(0) != 10 || x.At(1) != 11 || x.Merged() != 10 || !alikeOps(x.Op(), o) {
		t.Errorf("%d, %d", x.At(0), x.At(1))
	}
	wantFed(t, x, 1, one(t, "d0.0@12"))
	wantFed(t, x, 1, one(t, "d9.0@11"), one(t, "a0.1@6:7 b0.2@9 d9.0@11"))
	wantRestored(t, o, packed(marks+first+second))
	// what does not pass alone is kept as it came, and nothing comes of it
	o = op(api.OpAnd, 2, 5, conds(t, "a.x = 1")...)
	x = restored(t, o, packed(nat(0)+nat(0)+list(some(t, "a0.0@1 b0.1@9, a0.2@1:2, b0.3@4")...)+list()))
	wantFed(t, x, 1, one(t, "c0.4@5"), one(t, "b0.3@4 c0.4@5"))
	wantFed(t, x, 1, one(t, "c0.5@1"), one(t, "b0.3@4 c0.5@1"))
	// the state of an operator of which no input keeps anything
	for _, o := range several(t) {
		wantRestored(t, o, packed(strings.Repeat(nat(forever), o.Inputs)+strings.Repeat(nat(0), o.Inputs)))
		wantRestored(t, o, packed(strings.Repeat(nat(maxTime), o.Inputs)+strings.Repeat(nat(0), o.Inputs)))
	}
}

// Check's error is the first.
func TestRestoreOfNoOperator(t *testing.T) {
	o, marks, first, second := fine(t)
	o.Window = 0
	for _, bits := range []string{"", "0", zeros(100), marks + first + second, marks, nat(forever + 1)} {
		if x, err := oper.Restore(o, packed(bits)); x != nil || err != api.ErrOp {
			t.Errorf("error %d", err)
		}
	}
}

// Bits that end at any place, and those that say nothing.
func TestRestoreEnds(t *testing.T) {
	o, marks, first, second := fine(t)
	whole := packed(marks + first + second)
	for n := range whole {
		if x, err := oper.Restore(o, whole[:n]); x != nil || err != api.ErrEnds {
			t.Errorf("%d bytes: error %d", n, err)
		}
		wantRestored(t, o, whole[:n])
	}
	for _, c := range []struct {
		bits string
		want api.Errno
	}{
		{"", api.ErrEnds}, {zeros(64), api.ErrEnds}, {zeros(72), api.ErrCode}, {marks[:7] + zeros(65), api.ErrCode}, {marks + zeros(65), api.ErrCode}, {marks + first + zeros(65), api.ErrCode},
		{zeros(64) + "1" + zeros(63) + "1", api.ErrCode}, {marks + zeros(64) + "1" + zeros(63) + "1", api.ErrCode},
		{marks + nat(1) + "0001", api.ErrEnds}, {marks + nat(4096), api.ErrEnds}, {marks + nat(1) + "0001" + zeros(65), api.ErrCode},
		// match's, and event's
		{marks + nat(1) + "1101", api.ErrPartial}, {marks + nat(1) + "1111" + zeros(100), api.ErrPartial}, {marks + first + nat(1) + plain(row(1, 9))[:4] + text("1") + plainEvent(ev(0, 0, 9)), api.ErrPartial},
		{marks + nat(2) + strings.Repeat(plain(partial(bound("b", ev(0, 0, 9)), bound("a", ev(0, 1, 9)))), 2), api.ErrPartial},
		{marks + nat(1) + plain(partial(bound("a", ev(0, 0, forever)))), api.ErrEvent}, {marks + nat(1) + plain(partial(bound("a", api.Event{Type: "1"}))), api.ErrEvent},
		{marks + nat(1) + plain(partial(bound("a", ev(0, 0, 9, attr("y", num(1)), attr("x", num(1)))))), api.ErrOrder},
		// a mark above Forever, a number above MaxStore
		{nat(forever + 1), api.ErrState}, {nat(0) + nat(forever+1), api.ErrState}, {nat(1 << 63), api.ErrState}, {nat(1<<64 - 1), api.ErrState}, {nat(forever+1) + zeros(100), api.ErrState},
		{marks + nat(4097), api.ErrState}, {marks + nat(4097) + zeros(100), api.ErrState}, {marks + nat(1<<64-1), api.ErrState}, {marks + first + nat(4097), api.ErrState}, {marks + first + nat(1<<32), api.ErrState},
	} {
		wantNotRestored(t, o, c.bits, c.want)
	}
}

// Those that are not kept so: told as soon as they were read, ahead of what cannot be read behind them.
func TestRestoreOfWhatIsNotKept(t *testing.T) {
	o, marks, first, second := fine(t)
	for _, behind := range []string{"", zeros(100), plain(row(2, 9)), second, second + zeros(8)} {
		for _, bad := range [][]api.Partial{
			some(t, "a0.0@5, a0.0@5"), some(t, "a0.0@5, a0.0@6:3"), some(t, "a0.1@5, a0.0@5"), some(t, "b0.0@5, a0.1@5"), some(t, "a0.0@5 b0.1@5, a0.0@5"), {row(1, 9), {}}, {{}}, // do not rise, or began at 0
			{raw(ev(0, 0, 9))}, {raw(ev(0, 0, 9)), row(2, 9)}, {row(1, 9), raw(ev(0, 0, 9))},
			some(t, "a0.0@4"), some(t, "a0.0@4 b0.1@9"), some(t, "a0.0@5, b0.1@4"), some(t, "a0.0@9, b0.1@12 c0.2@0"),
		} {
			wantNotRestored(t, o, marks+list(bad...)+behind, api.ErrState)
			wantNotRestored(t, o, marks+first+list(bad...)+behind, api.ErrState)
		}
		for _, kind := range []int{api.OpOr, api.OpRoot} {
			o, inputs := op(kind, 2, 5), 2
			if kind == api.OpRoot {
				o.Inputs, inputs = 1, 1
			}
			marks := strings.Repeat(nat(9), inputs)
			wantNotRestored(t, o, marks+list(raw(ev(0, 0, 9)))+behind, api.ErrState)
			wantNotRestored(t, o, marks+list(some(t, "b0.0@9, a0.0@9")...)+behind, api.ErrState)
			wantNotRestored(t, o, marks+list(row(1, 3))+behind, api.ErrState)
			if inputs > 1 {
				wantNotRestored(t, o, marks+list(row(1, 9))+list(row(1, 9))+behind, api.ErrState)
				wantNotRestored(t, o, marks+list()+list(row(1, 9), row(2, 9))+behind, api.ErrState)
			}
		}
		for _, p := range []api.Partial{row(1, 9), raw(ev(0, 0, 9)), {}, row(12, 9)} { // of an OpTerm nothing is kept
			wantNotRestored(t, term("a", nil, nil), nat(0)+list(p)+behind, api.ErrState)
		}
	}
	// the number alone says nothing of an OpTerm, nor of what is kept of another input
	for _, many := range []uint64{1, 2, 4096} {
		wantNotRestored(t, term("a", nil, nil), nat(0)+nat(many)+"0001", api.ErrEnds)
		wantNotRestored(t, term("a", nil, nil), nat(0)+nat(many)+"1101", api.ErrPartial)
		wantNotRestored(t, op(api.OpOr, 2, 5), nat(0)+nat(0)+list()+nat(many)+"0001", api.ErrEnds)
		wantNotRestored(t, op(api.OpOr, 2, 5), nat(0)+nat(0)+list()+nat(many)+"1101", api.ErrPartial)
	}
	// nothing comes any more: nothing is kept
	wantNotRestored(t, o, nat(forever)+nat(forever)+list(row(1, maxTime)), api.ErrState)
	wantRestored(t, o, packed(nat(forever)+nat(maxTime)+list(row(1, maxTime))+list(row(1, maxTime-5))))
	// the empty one began at 0
	wantRestored(t, o, packed(nat(5)+nat(9)+list(api.Partial{}, row(1, 9))+list(api.Partial{})))
	wantNotRestored(t, o, nat(6)+nat(9)+list(api.Partial{}, row(1, 9))+list(api.Partial{}), api.ErrState)
	wantNotRestored(t, o, nat(5)+nat(9)+list(api.Partial{}, api.Partial{})+list(), api.ErrState)
}

func TestRestoreMore(t *testing.T) {
	o, marks, first, second := fine(t)
	bits := marks + first + second
	fill := (8 - len(bits)%8) % 8
	if fill == 0 {
		t.Fatal("no bit is left")
	}
	l := []string{bits + zeros(fill+8), bits + zeros(fill+800), bits + zeros(fill) + "1", bits + second}
	for i := range fill {
		l = append(l, bits+zeros(i)+"1"+zeros(fill-i-1))
	}
	for _, more := range l {
		wantNotRestored(t, o, more, api.ErrMore)
	}
}

// As many as may be kept, and forms of as many bits as may be.
func TestStateOfMuch(t *testing.T) {
	o := op(api.OpAnd, 2, 5)
	l := crowd("a", maxStore, 9)
	bits := nat(9) + nat(10) + list(l...) + list(l[1:]...)
	x := restored(t, o, packed(bits))
	wantKept(t, x, 0, l...)
	wantKept(t, x, 1, l[1:]...)
	if !bytes.Equal(snapshot(t, x), packed(bits)) {
		t.Error("another state")
	}
	wantRefused(t, x, 0, one(t, "b0.0@10"), api.ErrFull)

	y := filled(t, op(api.OpSeq, 12, maxTime), 500)
	for i := range 12 { // the horizon is still 0
		marked(t, y, i, maxTime-int64(i))
	}
	wantState(t, y)
	marks := ""
	for i := range 12 {
		marks += nat(uint64(maxTime - i))
	}
	for _, c := range []struct {
		form int
		want api.Errno
	}{{500, api.OK}, {498, api.OK}, {502, api.ErrState}, {2000, api.ErrState}} {
		all := marks
		for i := range 12 {
			kept := slices.Collect(y.All(i))
			if i == 11 {
				kept = append(kept, sized(t, "b", c.form))
			}
			all += list(kept...)
		}
		for _, more := range []string{"", zeros(100)} { // it is told as soon as it was read
			want := c.want
			if want == api.OK && more != "" {
				want = api.ErrMore
			}
			z, err := oper.Restore(y.Op(), packed(all+more))
			if err != want || (z != nil) != (err == api.OK) {
				t.Errorf("%d more bits: error %d, not %d", c.form, err, want)
			}
			if z != nil {
				wantState(t, z)
			}
		}
	}
}

// The greatest state that there can be: all forms, marks and numbers as long as may be.
func TestGreatestState(t *testing.T) {
	x := filled(t, op(api.OpSeq, 12, maxTime), 0)
	for i := range 11 {
		marked(t, x, i, forever)
	}
	marked(t, x, 11, maxTime)
	wantState(t, x)
	if n := x.Kept(0); n < 10 {
		t.Errorf("%d are kept", n)
	}
}

// Of states that were spoilt.
func TestSpoiltStates(t *testing.T) {
	came, r := counted{}, dice()
	for round := range 3000 {
		w := world{r, t, false, 0}
		o := w.op(1 + round%5)
		m := newPair(t, o)
		for range w.IntN(12) {
			m.feed(t, w.IntN(o.Inputs), w.fed(o, 0))
		}
		for i := range o.Inputs {
			m.mark(t, i, w.Int64N(8))
		}
		b := snapshot(t, m.x)
		if !bytes.Equal(b, packed(m.m.state())) {
			t.Fatalf("%v: %x, not %x", o, b, packed(m.m.state()))
		}
		came[wantRestored(t, o, b)]++
		for range 10 {
			c := slices.Clone(b)
			for range 1 + w.IntN(2) {
				c[w.IntN(len(c))] ^= 1 << w.IntN(8)
			}
			came[wantRestored(t, o, c[:len(c)-w.IntN(8)/7*w.IntN(len(c))])]++
		}
		other := o
		other.Kind, other.Inputs, other.Var, other.Type, other.Tests = api.OpAnd, 2, "", "", nil
		came[wantRestored(t, other, b)]++
		came[wantRestored(t, o, packed(m.m.state()+pick(w.Rand, "", "1", zeros(8), zeros(80))))]++
	}
	came.many(t, 50, api.OK, api.ErrEnds, api.ErrMore, api.ErrState, api.ErrPartial, api.ErrEvent)
}

// Any bytes.
func TestRestoreOfAnyBytes(t *testing.T) {
	came, r := counted{}, dice()
	for range 60000 {
		w := world{r, t, false, 0}
		b := make([]byte, w.IntN(30))
		for i := range b {
			b[i] = byte(w.Uint32() | w.Uint32())
		}
		came[wantRestored(t, w.op(1+w.IntN(5)), b)]++
	}
	came.many(t, 20, api.OK, api.ErrEnds, api.ErrMore, api.ErrState)
	over := new(big.Int).Lsh(big.NewInt(1), 64)
	wantNotRestored(t, op(api.OpAnd, 2, 5), code(over.Add(over, big.NewInt(1))), api.ErrCode)
}
