package match_test

import (
	"bytes"
	"slices"
	"testing"

	"eyrie/api"
	"eyrie/bits"
	"eyrie/match"
)

// P10.6

// turns are all orders of three.
func turns() [][3]int {
	return [][3]int{{0, 1, 2}, {0, 2, 1}, {1, 0, 2}, {1, 2, 0}, {2, 0, 1}, {2, 1, 0}}
}

// chained is what comes of three, the first two put together first; chainedBack the last two.
func chained(a, b, c api.Partial) (api.Partial, bool) {
	p, ok := match.Merge(a, b)
	if !ok {
		return api.Partial{}, false
	}
	return match.Merge(p, c)
}

func chainedBack(a, b, c api.Partial) (api.Partial, bool) {
	p, ok := match.Merge(b, c)
	if !ok {
		return api.Partial{}, false
	}
	return match.Merge(a, p)
}

// wantInWhateverOrder asks that two and three come to the same in all orders, and tells whether three are put together.
func wantInWhateverOrder(t *testing.T, l [3]api.Partial) bool {
	t.Helper()
	want, is := chained(l[0], l[1], l[2])
	for _, o := range turns() {
		a, b, c := l[o[0]], l[o[1]], l[o[2]]
		for _, merge := range []func(a, b, c api.Partial) (api.Partial, bool){chained, chainedBack} {
			if p, ok := merge(a, b, c); ok != is || !alike(p, want) {
				t.Fatalf("%s and %s and %s: %s %v, not %s %v", shown(a), shown(b), shown(c), shown(p), ok, shown(want), is)
			}
		}
		p, ok := match.Merge(a, b)
		q, also := match.Merge(b, a)
		if ok != also || !alike(p, q) {
			t.Fatalf("%s and %s: %s %v, %s %v", shown(a), shown(b), shown(p), ok, shown(q), also)
		}
	}
	return is
}

func TestMergeInWhateverOrder(t *testing.T) {
	r, told := dice(), counted[bool]{}
	for range 10000 {
		l := [3]api.Partial{some(r), some(r), some(r)}
		for i := range l {
			switch r.IntN(8) {
			case 0:
				l[i] = spoilt(r)
			case 1, 2, 3: // few bounds, so that often nothing is in common
				l[i].Bounds = l[i].Bounds[:min(len(l[i].Bounds), 1+r.IntN(2))]
			}
		}
		told[wantInWhateverOrder(t, l)]++
	}
	told.many(t, "three", 1000, true, false)
}

// Parts of one row, around the number that may be.
func TestMergeOfManyInWhateverOrder(t *testing.T) {
	r, told := dice(), counted[bool]{}
	for range 5000 {
		var l [3]api.Partial
		for _, b := range row(9 + r.IntN(6)).Bounds {
			i := r.IntN(3)
			l[i].Bounds = append(l[i].Bounds, b)
		}
		told[wantInWhateverOrder(t, l)]++
	}
	told.many(t, "three", 1000, true, false)
}

// All that can be made of two variables and two IDs.
func TestMergeOfAllSmallOnes(t *testing.T) {
	var l []api.Partial
	vars, ids := []string{"", "a", "b"}, []api.Event{ev(0, 0, 1), ev(0, 1, 2), ev(1, 0, 3)}
	l = append(l, api.Partial{})
	for _, v := range vars {
		for _, e := range ids {
			l = append(l, partial(bound(v, e)))
			for _, w := range vars {
				for _, f := range ids {
					l = append(l, partial(bound(v, e), bound(w, f)))
				}
			}
		}
	}
	told := counted[bool]{}
	for _, a := range l {
		for _, b := range l {
			want, is := modelMerge(a, b)
			told[is]++
			wantMerge(t, a, b, want, is)
		}
	}
	told.many(t, "two", 40, true, false)
	r := dice()
	for range 20000 {
		wantInWhateverOrder(t, [3]api.Partial{pick(r, l...), pick(r, l...), pick(r, l...)})
	}
}

// P10.7

func TestTimesOfWhatIsPutTogether(t *testing.T) {
	r, inside, parts := dice(), counted[bool]{}, 0
	for range 40000 {
		a, b := some(r), some(r)
		for i := range b.Bounds {
			b.Bounds[i].Event.ID.Source += 8
			b.Bounds[i].Event.Time += int64(r.IntN(30))
		}
		b.Bounds = b.Bounds[:min(len(b.Bounds), 1+r.IntN(3))]
		whole, ok := match.Merge(a, b)
		if !ok || len(a.Bounds) == 0 || len(b.Bounds) == 0 {
			continue
		}
		parts++
		wantTimes(t, whole, min(match.Begin(a), match.Begin(b)), max(match.End(a), match.End(b)))
		for w := int64(-2); w < 60; w += 1 + int64(r.IntN(5)) {
			in := match.Within(whole, w)
			inside[in]++
			if in && !(match.Within(a, w) && match.Within(b, w)) {
				t.Errorf("%s is within %d, but not %s and %s", shown(whole), w, shown(a), shown(b))
			}
		}
	}
	inside.many(t, "Within", 10000, true, false)
	if parts < 5000 {
		t.Errorf("only %d were put together", parts)
	}
}

// P10.8

func TestThereAndBack(t *testing.T) {
	for _, p := range many() {
		o, err := match.Parse(byBytes(t, p))
		if err != api.OK || !alike(o, p) || !match.Same(o, p) {
			t.Fatalf("%s: back %s, error %d", shown(p), shown(o), err)
		}
		s := bits.NewSink()
		s.Flags(true, false, true)
		if match.Put(s, p) != api.OK || s.Flags(true) != api.OK {
			t.Fatalf("%s: not put", shown(p))
		}
		r := bits.NewSource(s.Out())
		r.Bits(3)
		if o, err := match.Take(r); err != api.OK || !match.Same(o, p) {
			t.Fatalf("%s: taken as %s, error %d", shown(p), shown(o), err)
		}
		if f, err := r.Flag(); !f || err != api.OK {
			t.Fatalf("%s: more or less was taken than put", shown(p))
		}
	}
}

// again asks that bytes that are a partial match are just its bytes; it tells whether they are one.
func again(t *testing.T, b []byte) bool {
	t.Helper()
	p, err := match.Parse(b)
	if err != api.OK {
		return false
	}
	if match.Check(p) != api.OK {
		t.Errorf("%x: %s may not be", b, shown(p))
	}
	if o := byBytes(t, p); !bytes.Equal(o, b) {
		t.Errorf("%x: %s, whose bytes are %x", b, shown(p), o)
	}
	return true
}

func TestBackAndThere(t *testing.T) {
	r, n := dice(), 0
	for range 20000 {
		b := packed(plain(some(r)))
		for range r.IntN(3) {
			b[r.IntN(len(b))] ^= 1 << r.IntN(8)
		}
		if r.IntN(10) == 0 {
			b = b[:r.IntN(len(b)+1)]
		}
		if again(t, b) {
			n++
		}
		again(t, []byte(noise(r, r.IntN(20))))
	}
	if n < 8000 {
		t.Errorf("only %d are partial matches", n)
	}
}

// Of all short bytes one alone is a partial match: that of no Bounds.
func TestBackAndThereOfShortBytes(t *testing.T) {
	n := 0
	for u := range 1 << 16 {
		if again(t, []byte{byte(u >> 8), byte(u)}) || u < 256 && again(t, []byte{byte(u)}) {
			n++
		}
	}
	if n != 1 {
		t.Errorf("%d partial matches", n)
	}
}

// All that can follow a number of bounds, 1, the empty Var, and an event's ID and time.
func TestBackAndThereOfOneBound(t *testing.T) {
	n := 0
	for u := range 1 << 19 {
		if again(t, packed("0001"+"1"+"0101"+"010"+"1"+wide(u, 19))) {
			n++
		}
	}
	// a type of one letter or _, no attributes
	if n != 53 {
		t.Errorf("%d partial matches, not 53", n)
	}
}

// P10.9

func TestCompareIsAnOrder(t *testing.T) {
	r, zero := dice(), 0
	for range 40000 {
		a, b, c := anyhow(r), anyhow(r), anyhow(r)
		if r.IntN(3) == 0 { // near to each other
			b, c = deep(a), deep(a)
			b.Bounds, c.Bounds = b.Bounds[:r.IntN(len(a.Bounds)+1)], c.Bounds[:r.IntN(len(a.Bounds)+1)]
			for i := range b.Bounds {
				b.Bounds[i].Event.ID.Source += r.IntN(2)
			}
		}
		l := []api.Partial{a, b, c}
		slices.SortFunc(l, match.Compare)
		for i, x := range l {
			wantCompare(t, x, x, 0)
			for _, y := range l[i+1:] {
				n := match.Compare(x, y)
				if n > 0 || match.Compare(y, x) != -n {
					t.Fatalf("%s, %s: %d and %d", shown(x), shown(y), n, match.Compare(y, x))
				}
			}
		}
		if match.Compare(l[0], l[2]) == 0 {
			zero++
			wantCompare(t, l[0], l[1], 0)
			wantCompare(t, l[1], l[2], 0)
		}
	}
	if zero < 50 {
		t.Errorf("three were 0 to each other only %d times", zero)
	}
	for _, a := range risingOnes() {
		for _, b := range risingOnes() {
			for _, c := range risingOnes() {
				if match.Compare(a, b) <= 0 && match.Compare(b, c) <= 0 && match.Compare(a, c) > 0 {
					t.Fatalf("%s, %s, %s", shown(a), shown(b), shown(c))
				}
			}
		}
	}
}

func TestAllRisesStrictly(t *testing.T) {
	r, told := dice(), 0
	for range 2000 {
		s := match.NewSet()
		for range r.IntN(60) {
			s.Add(anyhow(r))
		}
		l := listed(s.All())
		for i := range l {
			if i > 0 && match.Compare(l[i-1], l[i]) != -1 {
				t.Fatalf("%s stands ahead of %s", shown(l[i-1]), shown(l[i]))
			}
		}
		told += len(l)
	}
	if told < 10000 {
		t.Errorf("only %d partial matches were told", told)
	}
}
