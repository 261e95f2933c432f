package event_test

import (
	"math"
	"slices"
	"strings"
	"testing"

	"eyrie/api"
	"eyrie/event"
)

// P4.1

func TestCheckTakes(t *testing.T) {
	for _, e := range ordinary() {
		if err := event.Check(e); err != api.OK {
			t.Errorf("%#v: error %d", e, err)
		}
	}
	r := dice()
	for range 2000 {
		if e := some(r); event.Check(e) != api.OK {
			t.Errorf("%#v: error %d", e, event.Check(e))
		}
	}
}

func TestCheckRefuses(t *testing.T) {
	for _, c := range refused() {
		if err := event.Check(c.e); err != c.want {
			t.Errorf("%#v: error %d, not %d", c.e, err, c.want)
		}
	}
	if err := event.Check(api.Event{}); err != api.ErrEvent { // it has no Type
		t.Errorf("the zero event: error %d", err)
	}
}

func TestCompare(t *testing.T) {
	// by Source ahead of Seq; of those that may not be, too
	rising := []api.ID{{Source: math.MinInt, Seq: 9}, {Source: -1, Seq: 0}, {Source: 0, Seq: math.MinInt64}, {Source: 0, Seq: -1}, {Source: 0, Seq: 0},
		{Source: 0, Seq: 1}, {Source: 0, Seq: 2}, {Source: 0, Seq: 10}, {Source: 0, Seq: 1 << 32}, {Source: 0, Seq: api.MaxTime}, {Source: 0, Seq: math.MaxInt64},
		{Source: 1, Seq: math.MinInt64}, {Source: 1, Seq: 0}, {Source: 2, Seq: 5}, {Source: 10, Seq: 4}, {Source: 15, Seq: 3}, {Source: math.MaxInt, Seq: 2}}
	for i, a := range rising {
		for j, b := range rising {
			want := 0
			if i < j {
				want = -1
			} else if i > j {
				want = 1
			}
			if n := event.Compare(a, b); n != want {
				t.Errorf("%v, %v: %d, not %d", a, b, n, want)
			}
		}
	}
}

// changed are events of which each differs from e in one field alone.
func changed(e api.Event) []api.Event {
	l := make([]api.Event, 4)
	for i := range l {
		l[i] = e
	}
	l[0].ID.Source++
	l[1].ID.Seq++
	l[2].Time++
	l[3].Type += "x"
	more := e
	more.Attrs = append(slices.Clone(e.Attrs), attr("zz", num(1)))
	l = append(l, more)
	for i := range e.Attrs {
		for _, change := range []func(a *api.Attr){
			func(a *api.Attr) { a.Name += "y" }, func(a *api.Attr) { a.Value.Kind = 3 - a.Value.Kind },
			func(a *api.Attr) { a.Value.N++ }, func(a *api.Attr) { a.Value.S += "z" }} {
			o := e
			o.Attrs = slices.Clone(e.Attrs)
			change(&o.Attrs[i])
			l = append(l, o)
		}
		o := e
		o.Attrs = slices.Delete(slices.Clone(e.Attrs), i, i+1)
		l = append(l, o)
	}
	return l
}

func TestSame(t *testing.T) {
	l := append(ordinary(), api.Event{}, ev(-1, -2, -3, api.Attr{}), typed(""))
	for _, c := range refused() {
		l = append(l, c.e)
	}
	for _, e := range l {
		o := e
		o.Attrs = slices.Clone(e.Attrs)
		if !event.Same(e, e) || !event.Same(e, o) || !event.Same(o, e) {
			t.Errorf("%#v: not the same", e)
		}
		if len(e.Attrs) > 10 {
			continue
		}
		for _, o := range changed(e) {
			if event.Same(e, o) || event.Same(o, e) {
				t.Errorf("%#v, %#v: the same", e, o)
			}
		}
	}
	// R4
	a, b := ev(1, 2, 3), ev(1, 2, 3)
	a.Attrs, b.Attrs = nil, make([]api.Attr, 0, 4)
	if !event.Same(a, b) || !event.Same(b, a) {
		t.Error("an empty list is not a nil one")
	}
	// attributes in another order are others
	if event.Same(ev(1, 2, 3, attr("a", num(1)), attr("b", num(2))), ev(1, 2, 3, attr("b", num(2)), attr("a", num(1)))) {
		t.Error("the order of attributes counts for nothing")
	}
}

func TestClone(t *testing.T) {
	l := append(ordinary(), api.Event{}, ev(-1, -2, -3, make([]api.Attr, 100)...))
	for _, c := range refused() {
		l = append(l, c.e)
	}
	for _, e := range l {
		c := event.Clone(e)
		if !alike(c, e) {
			t.Fatalf("%#v: cloned as %#v", e, c)
		}
		was := slices.Clone(c.Attrs)
		for i := range e.Attrs {
			e.Attrs[i].Name += "changed"
		}
		_ = append(e.Attrs[:0], make([]api.Attr, cap(e.Attrs))...)
		if !slices.Equal(c.Attrs, was) {
			t.Fatalf("%#v: the clone changed with it", c)
		}
	}
	// nor the other way round
	room := append(make([]api.Attr, 0, 9), full()...)
	e := ev(1, 2, 3, room...)
	c := event.Clone(e)
	c.Attrs[0].Name = "changed"
	_ = append(c.Attrs, attr("more", num(1)))
	if !slices.Equal(e.Attrs, full()) || room[:9][8] != (api.Attr{}) {
		t.Error("it changed with its clone")
	}
}

// R3: what is handed in is not written to.
func TestEventsAreNotWrittenTo(t *testing.T) {
	room := append(full(), attr("behind", str("x")))
	was := slices.Clone(room)
	e := ev(1, 2, 3, room[:8]...)
	event.Check(e)
	event.Same(e, e)
	event.Clone(e)
	event.Bytes(e)
	if x, err := event.New(2); err != api.OK || x.Accept(e) != api.ErrSeq {
		t.Error("no streams")
	}
	if !slices.Equal(room, was) {
		t.Errorf("%v, not %v", room, was)
	}
}

// R1: many attributes, and long texts.
func TestGreatEvents(t *testing.T) {
	long := strings.Repeat("a", 1<<20)
	e := ev(0, 0, 0, make([]api.Attr, 1<<18)...)
	e.Type = long
	if event.Check(e) != api.ErrEvent || !event.Same(e, event.Clone(e)) {
		t.Error("a great event")
	}
	e.Type = "A"
	if event.Check(e) != api.ErrLong {
		t.Error("many attributes")
	}
	if err := event.Check(ev(0, 0, 0, attr(long, num(1)))); err != api.ErrName {
		t.Errorf("a long name: error %d", err)
	}
	if err := event.Check(ev(0, 0, 0, attr("a", str(long)))); err != api.ErrValue {
		t.Errorf("a long string: error %d", err)
	}
}
