package oper_test

import (
	"math/big"
	"math/rand/v2"
	"slices"
	"strconv"
	"strings"
	"testing"

	"eyrie/api"
	"eyrie/match"
	"eyrie/oper"
	"eyrie/syntax"
)

// The chapter's numbers, written anew.
const (
	maxStore = 4096
	maxForms = 1<<20 - 1<<12
	maxTime  = 1 << 40
	forever  = maxTime + 1
)

// dice are the same at each run.
func dice() *rand.Rand { return rand.New(rand.NewPCG(140, 141)) }

func pick[T any](r *rand.Rand, l ...T) T { return l[r.IntN(len(l))] }

// Operators.

func conds(t testing.TB, text string) []api.Cond {
	t.Helper()
	if text == "" {
		return nil
	}
	l, at, err := syntax.Conds(text)
	if err != api.OK {
		t.Fatalf("%q: error %d at %d", text, err, at)
	}
	return l
}

// op is an operator of several inputs, or an OpRoot of one.
func op(kind, inputs int, window int64, l ...api.Cond) api.Op {
	return api.Op{Kind: kind, Inputs: inputs, Window: window, Conds: l}
}

// term is an OpTerm of events of the type A.
func term(name string, tests, l []api.Cond) api.Op {
	return api.Op{Kind: api.OpTerm, Var: name, Type: "A", Tests: tests, Conds: l, Window: 5, Inputs: 1}
}

// several are operators of each Kind.
func several(t testing.TB) []api.Op {
	return []api.Op{
		term("a", nil, nil), term("long_name", conds(t, "x > 1, y != \"u\""), conds(t, "long_name.x < 9")),
		op(api.OpSeq, 2, 5), op(api.OpSeq, 3, 9, conds(t, "a.x = b.x")...), op(api.OpSeq, 12, 7),
		op(api.OpAnd, 2, 5), op(api.OpAnd, 3, 9, conds(t, "a.x = b.x, c.y < \"v\"")...), op(api.OpAnd, 12, maxTime),
		op(api.OpOr, 2, 5, conds(t, "a.x > 0")...), op(api.OpOr, 12, 1), op(api.OpRoot, 1, 5), op(api.OpRoot, 1, maxTime, conds(t, "a.x = b.x")...),
	}
}

func made(t testing.TB, o api.Op) *oper.Oper {
	t.Helper()
	x, err := oper.New(o)
	if err != api.OK || x == nil {
		t.Fatalf("New(%v): error %d", o, err)
	}
	return x
}

// fed is an operator that took these on an input, whatever came of it.
func fed(t testing.TB, x *oper.Oper, input int, l ...api.Partial) *oper.Oper {
	t.Helper()
	for _, p := range l {
		if _, err := x.Feed(input, p); err != api.OK {
			t.Fatalf("%s on %d: error %d", shown(p), input, err)
		}
	}
	return x
}

func marked(t testing.TB, x *oper.Oper, input int, time int64) *oper.Oper {
	t.Helper()
	if _, _, err := x.Mark(input, time); err != api.OK {
		t.Fatalf("%d on %d: error %d", time, input, err)
	}
	return x
}

// Events and partial matches.

func num(n int64) api.Value { return api.Value{Kind: api.VInt, N: n} }

func str(s string) api.Value { return api.Value{Kind: api.VStr, S: s} }

func attr(name string, v api.Value) api.Attr { return api.Attr{Name: name, Value: v} }

// ev is an event of the type A.
func ev(source int, seq, time int64, attrs ...api.Attr) api.Event {
	return api.Event{ID: api.ID{Source: source, Seq: seq}, Time: time, Type: "A", Attrs: attrs}
}

func bound(name string, e api.Event) api.Bound { return api.Bound{Var: name, Event: e} }

func partial(l ...api.Bound) api.Partial { return api.Partial{Bounds: l} }

func raw(e api.Event) api.Partial { return partial(bound("", e)) }

// some are partial matches of a text, such as "a0.1@5:7 b1.0@7, c0.2@9": variables of one letter, their events' IDs and times, and the attribute x, if there is one.
func some(t testing.TB, text string) []api.Partial {
	t.Helper()
	var l []api.Partial
	for _, part := range strings.Split(text, ",") {
		var p api.Partial
		for _, word := range strings.Fields(part) {
			id, rest, _ := strings.Cut(word[1:], "@")
			source, seq, _ := strings.Cut(id, ".")
			time, x, with := strings.Cut(rest, ":")
			e := ev(int(number(t, source)), number(t, seq), number(t, time))
			if with {
				e.Attrs = append(e.Attrs, attr("x", num(number(t, x))))
			}
			p.Bounds = append(p.Bounds, bound(word[:1], e))
		}
		l = append(l, p)
	}
	return l
}

// one is the partial match of a text.
func one(t testing.TB, text string) api.Partial {
	t.Helper()
	return some(t, text)[0]
}

func number(t testing.TB, text string) int64 {
	t.Helper()
	n, err := strconv.ParseInt(text, 10, 64)
	if err != nil {
		t.Fatal(err)
	}
	return n
}

// letters are the first n variables a, b, ..
func letters(n int) []string {
	l := make([]string, n)
	for i := range l {
		l[i] = string(rune('a' + i))
	}
	return l
}

// row is a partial match of the first n variables, all at one time.
func row(n int, time int64) api.Partial {
	var p api.Partial
	for i, name := range letters(n) {
		p.Bounds = append(p.Bounds, bound(name, ev(15, int64(i), time)))
	}
	return p
}

// nth is the i-th of many partial matches of one variable, all at one time, rising.
func nth(name string, i int, time int64) api.Partial {
	return partial(bound(name, ev(i>>12, int64(i&(1<<12-1)), time)))
}

// What is the same, written out.

func alike(a, b api.Partial) bool {
	return slices.EqualFunc(a.Bounds, b.Bounds, func(x, y api.Bound) bool {
		e, f := x.Event, y.Event
		return x.Var == y.Var && e.ID == f.ID && e.Time == f.Time && e.Type == f.Type && slices.Equal(e.Attrs, f.Attrs)
	})
}

func alikeOps(a, b api.Op) bool {
	return a.Kind == b.Kind && a.Var == b.Var && a.Type == b.Type && slices.Equal(a.Tests, b.Tests) && slices.Equal(a.Conds, b.Conds) && a.Window == b.Window && a.Inputs == b.Inputs
}

// shown is a partial match, as some reads it.
func shown(p api.Partial) string {
	var s []string
	for _, b := range p.Bounds {
		word := b.Var + strconv.Itoa(b.Event.ID.Source) + "." + strconv.FormatInt(b.Event.ID.Seq, 10) + "@" + strconv.FormatInt(b.Event.Time, 10)
		for _, a := range b.Event.Attrs {
			word += ":" + strconv.FormatInt(a.Value.N, 10) + a.Value.S
		}
		s = append(s, word)
	}
	return strings.Join(s, " ")
}

func shownAll(l []api.Partial) string {
	var s []string
	for i, p := range l {
		if i == 20 {
			s = append(s, "..")
			break
		}
		s = append(s, shown(p))
	}
	return strconv.Itoa(len(l)) + ": " + strings.Join(s, ", ")
}

// What is wanted.

// wantFed feeds a partial match, and asks for what comes out.
func wantFed(t testing.TB, x *oper.Oper, input int, p api.Partial, want ...api.Partial) {
	t.Helper()
	l, err := x.Feed(input, p)
	if err != api.OK || !slices.EqualFunc(l, want, alike) {
		t.Fatalf("%s on %d: error %d, %s, not %s", shown(p), input, err, shownAll(l), shownAll(want))
	}
}

// wantRefused feeds a partial match, and asks for an error with nothing changed.
func wantRefused(t testing.TB, x *oper.Oper, input int, p api.Partial, want api.Errno) {
	t.Helper()
	was := x.Clone()
	l, err := x.Feed(input, p)
	if err != want || l != nil {
		t.Fatalf("%s on %d: error %d, not %d; %s", shown(p), input, err, want, shownAll(l))
	}
	wantAlike(t, x, was)
}

// wantMarked marks, and asks for the merged mark, and whether it rose.
func wantMarked(t testing.TB, x *oper.Oper, input int, time, merged int64, rose bool) {
	t.Helper()
	m, up, err := x.Mark(input, time)
	if m != merged || up != rose || err != api.OK {
		t.Fatalf("%d on %d: %d, %v, error %d, not %d, %v", time, input, m, up, err, merged, rose)
	}
}

// wantNoMark marks, and asks for an error with nothing changed.
func wantNoMark(t testing.TB, x *oper.Oper, input int, time int64, want api.Errno) {
	t.Helper()
	was := x.Clone()
	if m, up, err := x.Mark(input, time); m != 0 || up || err != want {
		t.Fatalf("%d on %d: %d, %v, error %d, not %d", time, input, m, up, err, want)
	}
	wantAlike(t, x, was)
}

// wantKept asks for what is kept of an input.
func wantKept(t testing.TB, x *oper.Oper, input int, want ...api.Partial) {
	t.Helper()
	if l := slices.Collect(x.All(input)); !slices.EqualFunc(l, want, alike) {
		t.Fatalf("kept of %d: %s, not %s", input, shownAll(l), shownAll(want))
	}
	if n := x.Kept(input); n != len(want) {
		t.Fatalf("Kept of %d: %d, not %d", input, n, len(want))
	}
}

// wantAlike asks whether two operators are the same in all that can be asked.
func wantAlike(t testing.TB, x, y *oper.Oper) {
	t.Helper()
	if !alikeOps(x.Op(), y.Op()) || x.Merged() != y.Merged() {
		t.Fatalf("another one: %v, %d, not %v, %d", x.Op(), x.Merged(), y.Op(), y.Merged())
	}
	for i := range x.Op().Inputs {
		if x.At(i) != y.At(i) {
			t.Fatalf("At(%d): %d, not %d", i, x.At(i), y.At(i))
		}
		wantKept(t, x, i, slices.Collect(y.All(i))...)
	}
}

// Bits as '0' and '1'.

// code is the code that says the natural number v - 1.
func code(v *big.Int) string { return zeros(v.BitLen()-1) + v.Text(2) }

// nat is the code of a natural number.
func nat(u uint64) string {
	v := new(big.Int).SetUint64(u)
	return code(v.Add(v, big.NewInt(1)))
}

// integer is the code of a number.
func integer(n int64) string {
	v := big.NewInt(n)
	v.Mul(v, big.NewInt(2))
	if n < 0 {
		v.Neg(v)
		v.Sub(v, big.NewInt(1))
	}
	return code(v.Add(v, big.NewInt(1)))
}

// text is the code of a text.
func text(s string) string {
	var b strings.Builder
	b.WriteString(nat(uint64(len(s))))
	for i := range len(s) {
		b.WriteString(wide(int(s[i]), 8))
	}
	return b.String()
}

func zeros(n int) string { return strings.Repeat("0", n) }

// wide is u in n bits.
func wide(u, n int) string {
	s := strconv.FormatInt(int64(u), 2)
	return zeros(n-len(s)) + s
}

// plainEvent is chapter 4's form of an event.
func plainEvent(e api.Event) string {
	s := wide(e.ID.Source, 4) + nat(uint64(e.ID.Seq)) + nat(uint64(e.Time)) + text(e.Type) + wide(len(e.Attrs), 4)
	for _, a := range e.Attrs {
		s += text(a.Name) + wide(a.Value.Kind, 2)
		if a.Value.Kind == api.VInt {
			s += integer(a.Value.N)
		} else {
			s += text(a.Value.S)
		}
	}
	return s
}

// plain is chapter 10's form of a partial match.
func plain(p api.Partial) string {
	s := wide(len(p.Bounds), 4)
	for _, b := range p.Bounds {
		s += text(b.Var) + plainEvent(b.Event)
	}
	return s
}

// list is how many partial matches there are, and they.
func list(l ...api.Partial) string {
	var b strings.Builder
	b.WriteString(nat(uint64(len(l))))
	for _, p := range l {
		b.WriteString(plain(p))
	}
	return b.String()
}

// packed is bits up to the end of a byte.
func packed(text string) []byte {
	text += zeros((8 - len(text)%8) % 8)
	b := make([]byte, len(text)/8)
	for i := range text {
		b[i/8] = b[i/8]<<1 | (text[i] - '0')
	}
	return b
}

func snapshot(t testing.TB, x *oper.Oper) []byte {
	t.Helper()
	b, err := x.Snapshot()
	if err != api.OK {
		t.Fatalf("Snapshot: error %d", err)
	}
	return b
}

func restored(t testing.TB, o api.Op, b []byte) *oper.Oper {
	t.Helper()
	x, err := oper.Restore(o, b)
	if err != api.OK || x == nil {
		t.Fatalf("Restore: error %d", err)
	}
	return x
}

// sorted are partial matches, rising, each once.
func sorted(l []api.Partial) []api.Partial {
	return slices.Collect(match.NewSet(l...).All())
}
