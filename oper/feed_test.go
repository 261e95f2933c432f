package oper_test

import (
	"math"
	"strconv"
	"strings"
	"testing"

	"eyrie/api"
)

// P14.2

func TestExample(t *testing.T) {
	x := made(t, op(api.OpSeq, 2, 5))
	a, b, late := one(t, "a0.0@1"), one(t, "b1.0@3"), one(t, "b1.1@9")
	wantFed(t, x, 0, a)
	wantFed(t, x, 1, b, one(t, "a0.0@1 b1.0@3"))
	wantFed(t, x, 1, late)
	wantMarked(t, x, 1, 9, 0, false)
	wantKept(t, x, 0, a)
	wantKept(t, x, 1, b, late)
	wantMarked(t, x, 0, 9, 9, true)
	wantKept(t, x, 0)
	wantKept(t, x, 1, late)
}

// bad is a partial match that no input takes, and why.
type bad struct {
	p    api.Partial
	want api.Errno
}

func refused() []bad {
	return []bad{
		{row(13, 5), api.ErrPartial}, {partial(bound("b", ev(0, 0, 5)), bound("a", ev(0, 1, 5))), api.ErrPartial}, {partial(bound("1", ev(0, 0, 5))), api.ErrPartial},
		{partial(bound("a", ev(0, 0, 5)), bound("a", ev(0, 1, 5))), api.ErrPartial}, {partial(bound("a", ev(0, 0, 5)), bound("b", ev(0, 0, 5))), api.ErrPartial},
		{partial(bound("", ev(0, 0, 5)), bound("a", ev(0, 1, 5))), api.ErrPartial},
		{partial(bound("a", api.Event{})), api.ErrEvent}, {raw(api.Event{}), api.ErrEvent}, {partial(bound("a", ev(16, 0, 5))), api.ErrEvent}, {raw(ev(0, -1, 5)), api.ErrEvent},
		{partial(bound("a", ev(0, 0, -1))), api.ErrEvent}, {raw(ev(0, 0, forever)), api.ErrEvent}, {partial(bound("a", ev(0, 0, math.MinInt64))), api.ErrEvent},
		{raw(ev(0, 0, 5, attr("x", api.Value{}))), api.ErrValue}, {partial(bound("a", ev(0, 0, 5, attr("", num(1))))), api.ErrName},
		{raw(ev(0, 0, 5, attr("y", num(1)), attr("x", num(1)))), api.ErrOrder}, {partial(bound("a", ev(0, 0, 5, make([]api.Attr, 9)...))), api.ErrLong},
		{partial(bound("a", ev(0, 0, 5, attr("x", str(strings.Repeat("s", 65)))))), api.ErrValue},
	}
}

// noInputs are numbers of inputs that no operator has.
func noInputs() []int { return []int{-1, -2, 12, 13, math.MinInt, math.MaxInt, 1 << 32} }

// busy is an operator that keeps something of each input that it keeps anything of, with marks that are at 4.
func busy(t *testing.T, o api.Op) *pair {
	t.Helper()
	m := newPair(t, o)
	for i := range o.Inputs {
		for k, name := range letters(5)[i%4:] {
			p := partial(bound(name, ev(i, int64(k), 5+int64(k))))
			if o.Kind == api.OpTerm {
				p = raw(p.Bounds[0].Event)
			}
			m.feed(t, i, p)
		}
		m.mark(t, i, 4)
	}
	return m
}

func TestFeedRefuses(t *testing.T) {
	for _, o := range several(t) {
		m := busy(t, o)
		good := raw(ev(9, 9, 9))
		if o.Kind != api.OpTerm {
			good = one(t, "f9.9@9")
		}
		for _, i := range append(noInputs(), o.Inputs) { // ErrArg is the first
			wantRefused(t, m.x, i, good, api.ErrArg)
			wantRefused(t, m.x, i, row(13, 1), api.ErrArg)
			wantRefused(t, m.x, i, raw(api.Event{}), api.ErrArg)
		}
		for _, i := range []int{0, o.Inputs - 1} {
			for _, c := range refused() { // whatever else is wrong with it
				wantRefused(t, m.x, i, c.p, c.want)
			}
			// what is raw, or what is not, is refused ahead of its being late
			for _, time := range []int64{0, 3, 4, 9, maxTime} {
				if o.Kind != api.OpTerm {
					wantRefused(t, m.x, i, raw(ev(9, 9, time)), api.ErrPartial)
				} else {
					wantRefused(t, m.x, i, partial(bound("a", ev(9, 9, time))), api.ErrPartial)
					wantRefused(t, m.x, i, row(2, time), api.ErrPartial)
					wantRefused(t, m.x, i, api.Partial{}, api.ErrPartial)
				}
			}
		}
		m.feed(t, o.Inputs-1, good)
	}
}

// Late is what ends below its own input's mark, wherever it began.
func TestFeedOfTheLate(t *testing.T) {
	for _, o := range several(t) {
		m := busy(t, o)
		last := o.Inputs - 1
		m.mark(t, last, 8)
		at := func(times ...int64) api.Partial {
			if o.Kind == api.OpTerm {
				return raw(ev(9, 9, times[len(times)-1]))
			}
			p := row(len(times), 0)
			for i, time := range times {
				p.Bounds[i].Event.Time = time
			}
			return p
		}
		wantRefused(t, m.x, last, at(7), api.ErrLate)
		wantRefused(t, m.x, last, at(0), api.ErrLate)
		wantRefused(t, m.x, last, at(5, 6, 7), api.ErrLate)
		m.feed(t, last, at(5, 8))
		m.feed(t, last, at(7, 7, 8))
		m.feed(t, last, at(8))
		if last > 0 {
			m.feed(t, 0, at(7))
			m.feed(t, 0, at(4))
			wantRefused(t, m.x, 0, at(3), api.ErrLate)
		}
		m.mark(t, last, forever)
		for _, p := range []api.Partial{at(8), at(maxTime)} {
			wantRefused(t, m.x, last, p, api.ErrLate)
		}
		if o.Kind != api.OpTerm {
			wantRefused(t, m.x, last, api.Partial{}, api.ErrLate) // which ends at 0
		}
	}
}

func TestTerm(t *testing.T) {
	o := term("v", conds(t, "x > 3, y != \"u\""), conds(t, "v.x < 9, v.z = v.x, w.x = 1"))
	x := made(t, o)
	all := func(x, z int64, y string) api.Event {
		return ev(1, 2, 7, attr("x", num(x)), attr("y", str(y)), attr("z", num(z)))
	}
	for range 2 { // nothing is kept: the same comes out again
		wantFed(t, x, 0, raw(all(5, 5, "v")), partial(bound("v", all(5, 5, "v"))))
	}
	for _, e := range []api.Event{
		all(3, 3, "v"), all(5, 5, "u"), ev(1, 2, 7), ev(1, 2, 7, attr("x", num(5))), // no tests hold
		all(9, 9, "v"), all(5, 6, "v"), ev(1, 2, 7, attr("x", num(5)), attr("y", str("v"))), // no conditions do
	} {
		wantFed(t, x, 0, raw(e))
	}
	other := all(5, 5, "v")
	other.Type = "B"
	wantFed(t, x, 0, raw(other))
	wantKept(t, x, 0)
	marked(t, x, 0, 7)
	wantFed(t, x, 0, raw(all(5, 5, "v")), partial(bound("v", all(5, 5, "v"))))
}

// Each once, whichever input it comes on.
func TestOrAndRoot(t *testing.T) {
	for _, kind := range []int{api.OpOr, api.OpRoot} {
		o := op(kind, 3, 5, conds(t, "a.x = b.x, a.x > 0")...)
		last := 2
		if kind == api.OpRoot {
			o.Inputs, last = 1, 0
		}
		x := made(t, o)
		good := some(t, "b0.0@1:0, a0.0@1:5, a0.1@1:5 b0.0@1:5, a0.0@2:5 b0.1@7:5, c0.0@3")
		for i, p := range good {
			wantFed(t, x, i%(last+1), p, p)
			wantFed(t, x, last, p)
			wantFed(t, x, 0, p)
		}
		for _, p := range some(t, "a0.5@1:0, a0.6@1:5 b0.5@1:6, a0.7@1:5 b0.8@1, a0.0@1:5 b0.1@7:5") {
			wantFed(t, x, last, p) // it does not pass
		}
		wantFed(t, x, last, one(t, "a0.0@9:7")) // one of the same names is there
		wantKept(t, x, 0, sorted(good)...)
		wantKept(t, x, last, map[bool][]api.Partial{true: sorted(good)}[last == 0]...)
		for i := range o.Inputs {
			marked(t, x, i, 7)
		}
		wantKept(t, x, 0, one(t, "a0.0@2:5 b0.1@7:5"), one(t, "c0.0@3"))
	}
}

// Of each other input one that is kept is taken.
func TestJoinOfThree(t *testing.T) {
	for _, kind := range []int{api.OpSeq, api.OpAnd} {
		x := made(t, op(kind, 3, 9))
		for _, p := range some(t, "a0.0@1, a0.1@2, a0.2@4") {
			wantFed(t, x, 0, p)
		}
		for _, p := range some(t, "c2.0@5, c2.1@3, c2.2@9") {
			wantFed(t, x, 2, p)
		}
		b := one(t, "b1.0@3")
		want := some(t, "a0.0@1 b1.0@3 c2.0@5, a0.0@1 b1.0@3 c2.2@9, a0.1@2 b1.0@3 c2.0@5, a0.1@2 b1.0@3 c2.2@9")
		if kind == api.OpAnd {
			want = append(want, some(t, "a0.0@1 b1.0@3 c2.1@3, a0.1@2 b1.0@3 c2.1@3, a0.2@4 b1.0@3 c2.0@5, a0.2@4 b1.0@3 c2.1@3, a0.2@4 b1.0@3 c2.2@9")...)
			want = sorted(want)
		}
		wantFed(t, x, 1, b, want...)
		wantFed(t, x, 1, b, want...) // it is there already: once more the same comes of it
		wantKept(t, x, 1, b)
	}
}

// Each input's ends below the next one's begin: not at it, and whichever came last.
func TestSeqInTurn(t *testing.T) {
	for _, c := range []struct {
		l    string
		some bool
	}{
		{"a0.0@3, b1.0@4, c2.0@5", true}, {"a0.0@3, b1.0@3, c2.0@5", false}, {"a0.0@3, b1.0@4, c2.0@4", false}, {"a0.0@3, b1.0@2, c2.0@5", false},
		{"a0.0@1 d0.1@4, b1.0@5 e1.1@7, c2.0@8 f2.1@9", true}, {"a0.0@1 d0.1@4, b1.0@4 e1.1@7, c2.0@8", false}, {"a0.0@1 d0.1@4, b1.0@5 e1.1@8, c2.0@8", false},
		{"a0.0@4 d0.1@1, b1.0@7 e1.1@5, c2.0@9 f2.1@8", true}, {"a0.0@4 d0.1@1, b1.0@6 e1.1@3, c2.0@9 f2.1@8", false}, {"a0.0@0, b1.0@10, c2.0@20", true},
	} {
		for _, order := range [][3]int{{0, 1, 2}, {0, 2, 1}, {1, 0, 2}, {1, 2, 0}, {2, 0, 1}, {2, 1, 0}} {
			seq, and := made(t, op(api.OpSeq, 3, 100)), made(t, op(api.OpAnd, 3, 100))
			parts := some(t, c.l)
			for _, i := range order[:2] {
				wantFed(t, seq, i, parts[i])
				wantFed(t, and, i, parts[i])
			}
			whole := wholes(ways(op(api.OpAnd, 3, 100), [][]api.Partial{{parts[0]}, {parts[1]}, {parts[2]}}))
			last := order[2]
			wantFed(t, and, last, parts[last], whole...)
			if !c.some {
				whole = nil
			}
			wantFed(t, seq, last, parts[last], whole...)
		}
	}
}

// What does not pass on its own is not kept; what passes alone, but not with others, is.
func TestJoinPasses(t *testing.T) {
	for _, kind := range []int{api.OpSeq, api.OpAnd} {
		x := made(t, op(kind, 2, 5, conds(t, "a.x = b.x, a.x > 0, b.z != 1")...))
		wantFed(t, x, 0, one(t, "a0.0@1:0"))
		wantFed(t, x, 0, one(t, "a0.0@1:5 c0.1@7"))
		wantKept(t, x, 0)
		l := some(t, "a0.0@1:5, a0.1@2:6, a0.2@3:5")
		for _, p := range l {
			wantFed(t, x, 0, p)
		}
		z := partial(bound("b", ev(1, 0, 7, attr("x", num(5)), attr("z", num(2)))))
		wantFed(t, x, 1, z, partial(l[2].Bounds[0], z.Bounds[0])) // the first is too far, the second has another x
		wantFed(t, x, 1, partial(bound("b", ev(1, 1, 7, attr("x", num(5)), attr("z", num(1))))))
		wantFed(t, x, 1, one(t, "b1.2@7:5")) // it has no z
		wantKept(t, x, 0, l...)
		wantKept(t, x, 1, z)
	}
}

// Conditions without variables, and of variables that nothing binds.
func TestConditionsOfNothing(t *testing.T) {
	never := api.Cond{Left: api.Operand{Value: num(1)}, Rel: api.RelGt, Right: api.Operand{Value: num(2)}}
	always := api.Cond{Left: api.Operand{Value: num(1)}, Rel: api.RelLt, Right: api.Operand{Value: num(2)}}
	unbound := api.Cond{Left: api.Operand{Attr: "x"}, Rel: api.RelEq, Right: api.Operand{Value: num(2)}}
	foreign := conds(t, "q.x = r.x")[0]
	for _, kind := range []int{api.OpSeq, api.OpAnd, api.OpOr} {
		x := made(t, op(kind, 2, 5, always, never))
		wantFed(t, x, 0, one(t, "a0.0@1"))
		wantFed(t, x, 1, one(t, "b0.1@2"))
		wantKept(t, x, 0)
		wantKept(t, x, 1)
	}
	x := made(t, op(api.OpAnd, 2, 5, always, unbound, foreign))
	wantFed(t, x, 0, one(t, "a0.0@1"))
	wantFed(t, x, 1, one(t, "b0.1@2"), one(t, "a0.0@1 b0.1@2"))
	wantFed(t, made(t, term("a", nil, []api.Cond{never})), 0, raw(ev(0, 0, 1)))
	wantFed(t, made(t, term("a", []api.Cond{never}, nil)), 0, raw(ev(0, 0, 1)))
	wantFed(t, made(t, term("a", []api.Cond{always}, []api.Cond{unbound, foreign})), 0, raw(ev(0, 0, 1)), one(t, "a0.0@1"))
}

// No variable and no event twice, and not more than MaxTerms.
func TestJoinMerges(t *testing.T) {
	for _, kind := range []int{api.OpSeq, api.OpAnd} {
		x := fed(t, made(t, op(kind, 2, 50)), 0, some(t, "a0.0@1, a0.1@1 b0.0@1, b0.2@1 c0.1@1, a0.3@1 b0.4@1 c0.5@1")...)
		wantFed(t, x, 1, one(t, "d0.1@9"), some(t, "a0.0@1 d0.1@9, a0.3@1 b0.4@1 c0.5@1 d0.1@9")...)
		wantFed(t, x, 1, one(t, "b0.6@9"), some(t, "a0.0@1 b0.6@9")...)
		wantFed(t, x, 1, one(t, "a0.5@9 d0.3@10"), some(t, "a0.5@9 b0.2@1 c0.1@1 d0.3@10")...)

		x = made(t, op(kind, 3, 50))
		big := row(12, 1)
		fed(t, x, 0, partial(big.Bounds[:4]...), partial(big.Bounds[:5]...))
		late := row(12, 9)
		fed(t, x, 1, partial(late.Bounds[4:8]...), partial(late.Bounds[5:8]...))
		last := partial(bound("i", ev(1, 0, 20)), bound("j", ev(1, 1, 20)), bound("k", ev(1, 2, 20)), bound("l", ev(1, 3, 20)))
		whole := append(append(row(4, 1).Bounds, late.Bounds[4:8]...), last.Bounds...)
		other := append(append(row(5, 1).Bounds, late.Bounds[5:8]...), last.Bounds...)
		less := append(append(row(4, 1).Bounds, late.Bounds[5:8]...), last.Bounds...)
		wantFed(t, x, 2, last, sorted([]api.Partial{partial(whole...), partial(other...), partial(less...)})...)
		more := partial(append(last.Bounds, bound("m", ev(1, 4, 20)))...)
		wantFed(t, x, 2, more, partial(append(less, more.Bounds[4])...))
	}
}

// The empty partial match passes, ends at 0, and has nothing in common with any.
func TestJoinOfTheEmpty(t *testing.T) {
	and := made(t, op(api.OpAnd, 3, 5))
	a := one(t, "a0.0@3")
	wantFed(t, and, 0, api.Partial{})
	wantFed(t, and, 1, api.Partial{})
	wantFed(t, and, 2, api.Partial{}, api.Partial{})
	wantFed(t, and, 1, a, a)
	wantFed(t, and, 2, one(t, "b0.1@9"), one(t, "b0.1@9")) // too far from the other
	wantKept(t, and, 1, api.Partial{}, a)
	seq := made(t, op(api.OpSeq, 2, 5))
	wantFed(t, seq, 0, api.Partial{})
	wantFed(t, seq, 1, api.Partial{})
	wantFed(t, seq, 1, one(t, "a0.0@0"))
	wantFed(t, seq, 1, one(t, "a0.1@1"), one(t, "a0.1@1"))
	wantFed(t, seq, 1, one(t, "a0.2@99"), one(t, "a0.2@99"))
	or := made(t, op(api.OpOr, 2, 5))
	wantFed(t, or, 1, api.Partial{}, api.Partial{})
	wantFed(t, or, 0, api.Partial{})
	wantKept(t, or, 0, api.Partial{})
	marked(t, marked(t, and, 0, 1), 1, 5)
	wantRefused(t, and, 0, api.Partial{}, api.ErrLate)
	marked(t, and, 2, 6)
	wantKept(t, and, 0, api.Partial{}) // the horizon is 0
	marked(t, and, 0, 6)
	marked(t, and, 1, 6)
	wantKept(t, and, 0)
}

// Of several that are 0 to each other the one is told whose part of the input 0 is the first, then that of the input 1, ..
func TestJoinTellsTheFirst(t *testing.T) {
	// each event has its place as its x, so that it is seen where what is told comes from
	x := made(t, op(api.OpAnd, 3, 50))
	fed(t, x, 0, some(t, "b0.1@1:1, a0.0@1:2 b0.1@1:2, a0.0@1:3")...)
	fed(t, x, 2, some(t, "c0.2@1:4 d0.3@1:4, d0.3@1:5, c0.2@1:6")...)
	// a; b and c, then d
	wantFed(t, x, 1, one(t, "b0.1@1:7 c0.2@1:7"), one(t, "a0.0@1:3 b0.1@1:7 c0.2@1:7 d0.3@1:5"))
	// a and b ahead of a alone, c ahead of c and d
	wantFed(t, x, 1, one(t, "c0.2@1:8"), one(t, "a0.0@1:2 b0.1@1:2 c0.2@1:8 d0.3@1:5"), one(t, "a0.0@1:3 c0.2@1:8 d0.3@1:5"), one(t, "b0.1@1:1 c0.2@1:8 d0.3@1:5"))

	x = made(t, op(api.OpAnd, 3, 50))
	fed(t, x, 0, some(t, "a0.0@1:1 b0.1@1:1, a0.0@1:2, b0.1@1:3")...)
	fed(t, x, 1, some(t, "a0.0@1:4, b0.1@1:5, b0.1@1:6 c0.2@1:6, c0.2@1:7")...)
	wantFed(t, x, 2, one(t, "d0.3@1:8"), one(t, "a0.0@1:2 b0.1@1:6 c0.2@1:6 d0.3@1:8"), one(t, "a0.0@1:2 b0.1@1:5 d0.3@1:8"), one(t, "a0.0@1:2 c0.2@1:7 d0.3@1:8"), one(t, "b0.1@1:3 c0.2@1:7 d0.3@1:8"))

	// the first one that passes: a alone is ahead of a and b, but too far away
	x = made(t, op(api.OpAnd, 2, 5))
	fed(t, x, 0, some(t, "a0.0@1, a0.0@8 b0.1@8")...)
	fed(t, x, 1, some(t, "b0.1@9 c0.2@9")...)
	wantFed(t, x, 1, one(t, "c0.2@8"), one(t, "a0.0@8 b0.1@8 c0.2@8"))
	x = made(t, op(api.OpSeq, 2, 50))
	fed(t, x, 0, some(t, "a0.0@9, a0.0@2:7 b0.1@3:7")...)
	fed(t, x, 1, some(t, "b0.1@4:8 c0.2@8:8")...)
	wantFed(t, x, 1, one(t, "c0.2@8:9"), one(t, "a0.0@2:7 b0.1@3:7 c0.2@8:9"))
}

// One of the same names is there: it stays, but the one that came is what is put together.
func TestJoinOfUnlikeEvents(t *testing.T) {
	x := made(t, op(api.OpAnd, 2, 50))
	wantFed(t, x, 0, one(t, "a0.0@1:1"))
	wantFed(t, x, 1, one(t, "b0.1@1:1"), one(t, "a0.0@1:1 b0.1@1:1"))
	wantFed(t, x, 0, one(t, "a0.0@2:2"), one(t, "a0.0@2:2 b0.1@1:1"))
	wantFed(t, x, 1, one(t, "b0.2@1:1"), one(t, "a0.0@1:1 b0.2@1:1"))
	wantKept(t, x, 0, one(t, "a0.0@1:1"))
}

// Held against the chapter's words, by chance.

func TestFeedByChance(t *testing.T) {
	came, told, r := counted{}, map[int]int{}, dice()
	for round := range 6000 {
		w := world{r, t, round%2 == 0, 0}
		o := w.op(1 + round%5)
		m := newPair(t, o)
		for range 8 * o.Inputs {
			if w.IntN(6) == 0 {
				w.now += w.Int64N(3)
			}
			input := w.IntN(o.Inputs)
			switch w.IntN(8) {
			case 0:
				came[m.mark(t, input, w.next(m.m.marks[input]))]++
			case 1:
				bad := pick(w.Rand, refused()...).p
				came[m.feed(t, pick(w.Rand, input, -1, o.Inputs), pick(w.Rand, bad, w.fed(o, input)))]++
			}
			came[m.feed(t, input, w.fed(o, input))]++
			told[min(m.last, 5)]++
		}
		wantModel(t, m.x, m.m)
	}
	came.many(t, 100, api.OK, api.ErrArg, api.ErrPartial, api.ErrLate, api.ErrEvent, api.ErrMark)
	for many := range 6 {
		if told[many] < 300 {
			t.Errorf("%s came out only %d times", strconv.Itoa(many), told[many])
		}
	}
}
