package oper_test

import (
	"slices"
	"strings"
	"testing"

	"eyrie/api"
	"eyrie/oper"
)

// P14.2: what is too much is refused, and nothing is changed by it.

// crowd are n partial matches of one variable.
func crowd(name string, n int, time int64) []api.Partial {
	l := make([]api.Partial, n)
	for i := range l {
		l[i] = nth(name, i, time)
	}
	return l
}

// As many as may come out, and one more.
func TestFullOfOutputs(t *testing.T) {
	for _, c := range []struct {
		first, second int
		want          api.Errno
	}{{64, 64, api.OK}, {1, 4096, api.OK}, {4096, 1, api.OK}, {17, 241, api.ErrFull}, {241, 17, api.ErrFull}, {4000, 2, api.ErrFull}, {1000, 1000, api.ErrFull}} {
		for _, kind := range []int{api.OpSeq, api.OpAnd} {
			x := fed(t, made(t, op(kind, 3, 50)), 0, crowd("a", c.first, 1)...)
			second := crowd("b", c.second, 2)
			for i := range second {
				second[i].Bounds[0].Event.ID.Source += 8
			}
			fed(t, x, 1, second...)
			last := one(t, "c15.0@3")
			if c.want != api.OK {
				wantRefused(t, x, 2, last, c.want)
				continue
			}
			l, err := x.Feed(2, last)
			if err != api.OK || len(l) != maxStore || x.Kept(2) != 1 {
				t.Fatalf("%d and %d: error %d, %d came out", c.first, c.second, err, len(l))
			}
			for i, p := range l {
				if want := partial(nth("a", i/c.second, 1).Bounds[0], second[i%c.second].Bounds[0], last.Bounds[0]); !alike(p, want) {
					t.Fatalf("%s, not %s", shown(p), shown(want))
				}
			}
		}
	}
}

// Those that are 0 to each other count once, however many ways there are: of b and e, each of which one of two inputs may have, or none, there are nine, of which four things come.
func TestFullOfOutputsCountsEachOnce(t *testing.T) {
	for n, want := range map[int]api.Errno{32: api.OK, 33: api.ErrFull} {
		x := made(t, op(api.OpAnd, 3, 50))
		for i := range n {
			a, c := bound("a", ev(14, int64(i), 1)), bound("c", ev(13, int64(i), 1))
			for _, input := range []int{0, 2} { // where they come from is seen by x
				b, e := bound("b", ev(15, 0, 1, attr("x", num(int64(input))))), bound("e", ev(15, 1, 1, attr("x", num(int64(input)))))
				if input == 0 {
					fed(t, x, 0, partial(a), partial(a, b), partial(a, e), partial(a, b, e))
				} else {
					fed(t, x, 2, partial(c), partial(b, c), partial(c, e), partial(b, c, e))
				}
			}
		}
		d := one(t, "d15.2@1")
		if want != api.OK {
			wantRefused(t, x, 1, d, want)
			continue
		}
		l, err := x.Feed(1, d)
		if err != want || len(l) != maxStore || len(sorted(l)) != maxStore {
			t.Fatalf("error %d, %d came out", err, len(l))
		}
		for _, p := range l { // a alone is ahead of a and others
			for _, b := range p.Bounds {
				if len(b.Event.Attrs) > 0 && b.Event.Attrs[0].Value.N != 2 {
					t.Fatalf("%s came out", shown(p))
				}
			}
		}
	}
}

// As many as may be kept of an input.
func TestFullOfKept(t *testing.T) {
	for _, o := range []api.Op{op(api.OpSeq, 2, 5), op(api.OpAnd, 3, 5), op(api.OpOr, 2, 5), op(api.OpRoot, 1, 5)} {
		l := crowd("a", maxStore, 4)
		x := fed(t, made(t, o), 0, l...)
		wantKept(t, x, 0, l...)
		last := o.Inputs - 1
		joins := o.Kind == api.OpSeq || o.Kind == api.OpAnd
		wantRefused(t, x, 0, nth("a", maxStore, 4), api.ErrFull)
		wantRefused(t, x, 0, one(t, "A0.0@0"), api.ErrFull)
		wantFed(t, x, 0, l[0]) // it is there
		wantFed(t, x, 0, l[maxStore-1])
		wantFed(t, x, 0, one(t, "a15.0@1 b15.1@9")) // it does not pass
		if last > 0 && !joins {
			wantRefused(t, x, last, nth("a", maxStore, 4), api.ErrFull)
		}
		if joins {
			fed(t, x, last, l...) // of another input there is room
			wantRefused(t, x, last, nth("a", maxStore, 4), api.ErrFull)
			wantKept(t, x, last, l...)
		}
		for i := range o.Inputs {
			marked(t, x, i, 10)
		}
		fed(t, x, 0, crowd("a", 5, 10)...)
		wantKept(t, x, 0, crowd("a", 5, 10)...)
	}
}

// sized is a partial match of a form of so many bits, an even number: of an event of the source 15, of many bytes, and of a Seq that says the rest.
func sized(t testing.TB, name string, form int) api.Partial {
	t.Helper()
	for n := range 9 * 64 {
		e := ev(15, 0, 4)
		for i := range n / 64 {
			e.Attrs = append(e.Attrs, attr(letters(8)[i], str(strings.Repeat("s", 64))))
		}
		if n%64 > 0 && n < 8*64 {
			e.Attrs = append(e.Attrs, attr("z", str(strings.Repeat("s", n%64))))
		}
		if more := form - len(plain(partial(bound(name, e)))); more >= 0 && more <= 80 {
			e.ID.Seq = 1<<(more/2) - 1
			return partial(bound(name, e))
		}
	}
	t.Fatalf("no form of %d bits", form)
	return api.Partial{}
}

// filled is an operator in whose forms no more than so many bits have room, on all its inputs by turns; none of it can be put together.
func filled(t testing.TB, o api.Op, left int) *oper.Oper {
	t.Helper()
	x, room := made(t, o), maxForms-left
	for i := 0; room > 0; i++ {
		e := ev(i%15, int64(i), 4)
		for _, name := range letters(4) {
			e.Attrs = append(e.Attrs, attr(name, str(strings.Repeat("s", 64))))
		}
		p := partial(bound("a", e))
		if len(plain(p)) > room-2000 {
			p = sized(t, "a", room)
		}
		room -= len(plain(p))
		fed(t, x, i%o.Inputs, p)
	}
	return x
}

// at is a partial match at another time.
func at(p api.Partial, time int64) api.Partial {
	l := slices.Clone(p.Bounds)
	for i := range l {
		l[i].Event.Time = time
	}
	return partial(l...)
}

// Forms of as many bits as may be, and of two more: all have an even number of them.
func TestFullOfForms(t *testing.T) {
	for _, o := range []api.Op{op(api.OpSeq, 2, 5), op(api.OpAnd, 12, 5), op(api.OpOr, 3, 5), op(api.OpRoot, 1, 5)} {
		for _, form := range []int{40, 100, 602, 3000} {
			x := filled(t, o, form)
			p, big := sized(t, "b", form), sized(t, "b", form+2)
			last := o.Inputs - 1
			wantRefused(t, x, last, big, api.ErrFull)
			for _, input := range []int{0, last} {
				y := x.Clone()
				if _, err := y.Feed(input, p); err != api.OK {
					t.Fatalf("%d bits: error %d", form, err)
				}
				wantRefused(t, y, last, api.Partial{}, api.ErrFull) // of four bits
				wantRefused(t, y, 0, one(t, "c14.9@4"), api.ErrFull)
				if _, err := y.Feed(input, p); err != api.OK { // it is there
					t.Fatalf("error %d", err)
				}
				wantFed(t, y, 0, one(t, "c14.9@1 d13.9@9")) // it does not pass
				wantState(t, y)
				for i := range o.Inputs {
					marked(t, y, i, 10)
				}
				fed(t, y, last, at(sized(t, "b", 3000), 10))
			}
		}
	}
}

// Of an OpTerm nothing is kept, however much comes.
func TestTermIsNeverFull(t *testing.T) {
	x := made(t, term("a", nil, nil))
	for i := range 2 * maxStore {
		e := ev(i%16, int64(i), 4, attr("x", str(strings.Repeat("s", 64))))
		wantFed(t, x, 0, raw(e), partial(bound("a", e)))
	}
	wantKept(t, x, 0)
}

// What is refused may come again when there is room, and then comes of it what came not.
func TestFullThenRoom(t *testing.T) {
	x := made(t, op(api.OpAnd, 2, 5))
	fed(t, x, 0, crowd("a", maxStore, 4)...)
	fed(t, x, 1, one(t, "b15.0@9"))
	late := one(t, "a15.1@10")
	wantRefused(t, x, 0, late, api.ErrFull)
	marked(t, marked(t, x, 0, 10), 1, 10)
	wantFed(t, x, 0, late, one(t, "a15.1@10 b15.0@9"))
	wantKept(t, x, 0, late)
	wantKept(t, x, 1, one(t, "b15.0@9"))
}

// wantState asks whether what Snapshot tells has room, and is the same again.
func wantState(t testing.TB, x *oper.Oper) {
	t.Helper()
	b := snapshot(t, x)
	if len(b) > api.MaxBits/8 {
		t.Fatalf("a state of %d bytes", len(b))
	}
	y := restored(t, x.Op(), b)
	wantAlike(t, y, x)
	if !slices.Equal(snapshot(t, y), b) {
		t.Fatal("another state")
	}
}
