package value_test

import (
	"testing"

	"eyrie/api"
	"eyrie/value"
)

// many are values that may be: those with edges, and some by chance.
func many(n int) []api.Value {
	r, l := dice(), []api.Value{}
	for _, i := range numbers() {
		l = append(l, num(i))
	}
	for _, s := range words() {
		l = append(l, str(s))
	}
	for range n {
		l = append(l, some(r))
	}
	return l
}

// P3.5

// order is what Compare says of two values; it fails unless it says it just of those of one Kind.
func order(t *testing.T, a, b api.Value) (int, bool) {
	t.Helper()
	n, ok := value.Compare(a, b)
	if ok != (a.Kind == b.Kind) || n < -1 || n > 1 || !ok && n != 0 {
		t.Errorf("%#v, %#v: %d %v", a, b, n, ok)
	}
	return n, ok
}

func TestOrder(t *testing.T) {
	l := many(60)
	for _, a := range l {
		for _, b := range l {
			ab, ok := order(t, a, b)
			ba, _ := order(t, b, a)
			if ab != -ba || ok && (ab == 0) != (a == b) {
				t.Errorf("%#v, %#v: %d, and turned %d", a, b, ab, ba)
			}
			for _, c := range l {
				bc, _ := order(t, b, c)
				ac, also := order(t, a, c)
				if ok && also && ab <= 0 && bc <= 0 && (ac > 0 || ac == 0 && ab+bc < 0) {
					t.Errorf("%#v, %#v, %#v: %d, %d, but %d", a, b, c, ab, bc, ac)
				}
			}
		}
	}
}

// P3.6

func TestRelationsTurned(t *testing.T) {
	l := append(many(100), nothings()...)
	for _, rel := range rels() {
		for _, a := range l {
			for _, b := range l {
				holds := value.Holds(rel, a, b)
				if value.Holds(value.Swap(rel), b, a) != holds {
					t.Errorf("relation %d of %#v, %#v: %v, and another one turned", rel, a, b, holds)
				}
				if _, ok := value.Compare(a, b); ok && isRel(rel) && value.Holds(value.Not(rel), a, b) == holds {
					t.Errorf("relation %d of %#v, %#v: %v, and the same with Not", rel, a, b, holds)
				}
			}
		}
	}
}

// Turned twice a relation is what it was.
func TestTurnedTwice(t *testing.T) {
	for _, rel := range rels() {
		want := rel
		if !isRel(rel) {
			want = 0
		}
		if n := value.Swap(value.Swap(rel)); n != want {
			t.Errorf("Swap of Swap of %d: %d", rel, n)
		}
		if n := value.Not(value.Not(rel)); n != want {
			t.Errorf("Not of Not of %d: %d", rel, n)
		}
	}
}

// P3.7

func TestThereAndBack(t *testing.T) {
	for _, v := range append(values(), many(5000)...) {
		s := value.Text(v)
		if o, ok := value.Parse(s); o != v || !ok {
			t.Errorf("%#v: %s, and back %#v %v", v, s, o, ok)
		}
	}
	// what may not be is not read back
	for _, v := range refused() {
		s := value.Text(v)
		if o, ok := value.Parse(s); ok && (o == v || value.Check(o) != api.OK) {
			t.Errorf("%#v: read of %s", v, s)
		}
	}
}

func TestBackAndThere(t *testing.T) {
	r, n := dice(), 0
	for range 30000 {
		s := noise(r, r.IntN(3))
		switch r.IntN(3) {
		case 0:
			s = "\"" + s + "\""
		case 1:
			s = value.Text(some(r)) + s
		}
		v, ok := value.Parse(s)
		if ok {
			n++
		}
		if ok && (value.Text(v) != s || value.Check(v) != api.OK) {
			t.Errorf("%q: %#v, and there %q", s, v, value.Text(v))
		}
	}
	if n < 1000 {
		t.Errorf("only %d are taken", n)
	}
}
