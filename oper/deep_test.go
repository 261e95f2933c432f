package oper_test

import (
	"strings"
	"testing"
	"time"

	"eyrie/api"
	"eyrie/match"
	"eyrie/oper"
)

// THE BOUND: very much, in near-linear time, times the ways to take one of each input: were it more, each of them would take minutes.

// soon fails, if something takes far longer than that.
func soon(t *testing.T, what string, f func()) {
	t.Helper()
	begin := time.Now()
	f()
	if d := time.Since(begin); d > 20*time.Second {
		t.Errorf("%s: %v", what, d)
	}
}

// Of two inputs as full as may be.
func TestFullInputs(t *testing.T) {
	soon(t, "full inputs", func() {
		for _, kind := range []int{api.OpSeq, api.OpAnd} {
			x := fed(t, made(t, op(kind, 2, 50)), 0, crowd("a", maxStore, 1)...)
			for i := range 200 {
				b := partial(bound("b", ev(15, int64(i), 2)))
				l, err := x.Feed(1, b)
				if err != api.OK || len(l) != maxStore || match.Compare(l[0], partial(nth("a", 0, 1).Bounds[0], b.Bounds[0])) != 0 {
					t.Fatalf("%d: error %d, %d came out", i, err, len(l))
				}
			}
			for i := range maxStore - 200 { // they have the variable in common with all
				wantFed(t, x, 1, partial(bound("a", ev(15, int64(i), 3))))
			}
			wantRefused(t, x, 1, one(t, "c14.0@9"), api.ErrFull)
			for i := range int64(500) {
				marked(t, marked(t, x, 0, i/10), 1, i/10)
			}
			wantState(t, x)
		}
		x := made(t, op(api.OpRoot, 1, 50))
		for range 3 {
			fed(t, x, 0, crowd("a", maxStore, 1)...)
		}
	})
}

// What comes and goes for long: a full operator goes on as an empty one.
func TestComingAndGoing(t *testing.T) {
	soon(t, "coming and going", func() {
		for _, o := range []api.Op{op(api.OpAnd, 2, 100), op(api.OpOr, 2, 100), op(api.OpSeq, 12, 100)} {
			x := made(t, o)
			for i := range 20000 {
				p := partial(bound("a", ev(0, int64(i), int64(i))))
				fed(t, x, i%o.Inputs, p)
				for k := range o.Inputs {
					if i%20 == 0 {
						marked(t, x, k, int64(i))
					}
				}
			}
			if n := x.Kept(0); n > 200 {
				t.Errorf("%v: %d are kept", o, n)
			}
		}
	})
}

// Ways that lead nowhere: very many of them, as inputs have the same events, or events of few times.
func TestWaysThatLeadNowhere(t *testing.T) {
	soon(t, "ways", func() {
		and := made(t, op(api.OpAnd, 12, 1000))
		for e := range int64(11) { // one too few
			for i, name := range letters(12) {
				wantFed(t, and, i, partial(bound(name, ev(0, e, e))))
			}
		}
		wantRefused(t, and, 5, partial(bound("f", ev(1, 0, 11))), api.ErrFull)
		seq := made(t, op(api.OpSeq, 12, 1000))
		for i, name := range letters(11) {
			for e := range int64(100) { // of ten times
				wantFed(t, seq, i, partial(bound(name, ev(i, e, e%10))))
			}
		}
		wantFed(t, seq, 11, partial(bound("l", ev(11, 0, 20))))
		wide := made(t, op(api.OpAnd, 4, 1000))
		for i := range 4 {
			for e := range int64(200) { // of four variables each
				var p api.Partial
				for k := range 4 {
					p.Bounds = append(p.Bounds, bound(letters(16)[4*i+k], ev(4*i+k, e, 5)))
				}
				wantFed(t, wide, i, p)
			}
		}
		pairs := made(t, op(api.OpAnd, 3, 1<<20, conds(t, "a.x = b.x")...))
		for i := range int64(1500) {
			wantFed(t, pairs, 0, partial(bound("a", ev(0, i, 5, attr("x", num(2*i))))))
			wantFed(t, pairs, 1, partial(bound("b", ev(1, i, 5, attr("x", num(2*i+1))))))
		}
		wantFed(t, pairs, 2, one(t, "c2.0@5"))
	})
}

// Operators, partial matches and bytes that are very long.
func TestMuchOfWhatMayNotBe(t *testing.T) {
	soon(t, "much", func() {
		many := make([]api.Cond, 1<<20)
		wantOp(t, op(api.OpAnd, 2, 5, many...), api.ErrOp)
		wantOp(t, term(strings.Repeat("n", 1<<24), nil, nil), api.ErrOp)
		x := made(t, op(api.OpAnd, 2, 5))
		p := partial(make([]api.Bound, 1<<20)...)
		wantRefused(t, x, 0, p, api.ErrPartial)
		wantRefused(t, x, 0, partial(bound(strings.Repeat("n", 1<<24), ev(0, 0, 1))), api.ErrPartial)
		for _, bits := range []string{nat(5) + nat(5) + nat(1) + "0001" + nat(1<<22), nat(5) + nat(5) + nat(0) + nat(0), nat(9)} {
			if y, err := oper.Restore(x.Op(), append(packed(bits), make([]byte, 1<<24)...)); y != nil || err == api.OK {
				t.Errorf("error %d", err)
			}
		}
	})
}

// Texts of conditions that are very long, held against each other again and again.
func TestLongConditions(t *testing.T) {
	long := func() api.Operand { return api.Operand{Value: str(strings.Repeat("s", 1<<20))} }
	l := []api.Cond{{Left: long(), Rel: api.RelEq, Right: long()}, {Left: long(), Rel: api.RelGt, Right: api.Operand{Var: "a", Attr: "y"}}}
	soon(t, "long conditions", func() {
		x := made(t, op(api.OpAnd, 2, 5, l...))
		for i := range 1000 {
			wantFed(t, x, 0, partial(bound("a", ev(0, int64(i), 5, attr("y", str(strings.Repeat("s", 64)))))))
		}
		for i := range 100 {
			if l, err := x.Feed(1, partial(bound("b", ev(1, int64(i), 5)))); err != api.OK || len(l) != 1000 {
				t.Fatalf("error %d, %d came out", err, len(l))
			}
		}
	})
}
