package value_test

import (
	"math"
	"slices"
	"strings"
	"testing"

	"eyrie/api"
	"eyrie/value"
)

// P3.3

// bad is an attribute whose value may not be.
func bad(name string) api.Attr { return api.Attr{Name: name, Value: api.Value{Kind: api.VInt, S: "x"}} }

func wantAttrs(t *testing.T, l []api.Attr, want api.Errno) {
	t.Helper()
	if err := value.CheckAttrs(l); err != want {
		t.Errorf("%#v: error %d, not %d", l, err, want)
	}
}

func TestCheckAttrsTakes(t *testing.T) {
	full := list("a", "b", "c", "d", "e", "f", "g", "h")
	if len(full) != api.MaxAttrs {
		t.Fatal("another MaxAttrs")
	}
	for n := range len(full) + 1 {
		wantAttrs(t, full[:n], api.OK)
	}
	wantAttrs(t, nil, api.OK)
	wantAttrs(t, []api.Attr{}, api.OK)
	// by bytes: digits, great letters, _, small letters; a beginning is less
	wantAttrs(t, list("A", "B", "Z", "_", "_0", "__", "a", "z"), api.OK)
	wantAttrs(t, list("a", "a0", "a10", "a2", "aA", "a_", "aa", "b"), api.OK)
	for _, v := range values() {
		wantAttrs(t, []api.Attr{{Name: "x", Value: v}, {Name: "y", Value: v}}, api.OK)
	}
}

func TestCheckAttrsRefuses(t *testing.T) {
	for _, s := range []string{"", "1", "1a", "a-b", "a b", "\u00e9", strings.Repeat("a", api.MaxName+1)} {
		wantAttrs(t, list(s), api.ErrName)
		wantAttrs(t, []api.Attr{named("A"), named(s)}, api.ErrName)
	}
	for _, v := range refused() {
		wantAttrs(t, []api.Attr{{Name: "x", Value: v}}, api.ErrValue)
		wantAttrs(t, []api.Attr{named("a"), {Name: "x", Value: v}, named("z")}, api.ErrValue)
	}
	for _, l := range [][]string{{"a", "a"}, {"b", "a"}, {"a", "B"}, {"a", "_"}, {"_", "Z"}, {"aa", "a"}, {"a2", "a10"}, {"a", "b", "b"},
		{"a", "c", "b"}, {"a", "b", "a"}, {"a", "b", "c", "d", "e", "f", "h", "g"}, {"b", "a", "c"}} {
		wantAttrs(t, list(l...), api.ErrOrder)
	}
}

func TestCheckAttrsLong(t *testing.T) {
	long := list("a", "b", "c", "d", "e", "f", "g", "h", "i")
	wantAttrs(t, long, api.ErrLong)
	wantAttrs(t, append(long, long...), api.ErrLong)
	// it comes first of all
	wantAttrs(t, make([]api.Attr, api.MaxAttrs+1), api.ErrLong)
	wantAttrs(t, make([]api.Attr, 10000), api.ErrLong)
	wantAttrs(t, make([]api.Attr, api.MaxAttrs), api.ErrName)
}

// Several errors: one attribute behind the other; of each its name, its value, its place.
func TestCheckAttrsFirstError(t *testing.T) {
	for _, c := range []struct {
		l    []api.Attr
		want api.Errno
	}{
		{[]api.Attr{bad("1")}, api.ErrName},
		{[]api.Attr{bad("")}, api.ErrName},
		{[]api.Attr{bad("a"), named("1")}, api.ErrValue},
		{[]api.Attr{named("1"), bad("a")}, api.ErrName},
		{[]api.Attr{named("a"), bad("a")}, api.ErrValue},
		{[]api.Attr{named("b"), bad("a")}, api.ErrValue},
		{[]api.Attr{named("b"), bad("1")}, api.ErrName},
		{[]api.Attr{named("b"), named("1")}, api.ErrName},
		{[]api.Attr{named("a"), named("a"), bad("b")}, api.ErrOrder},
		{[]api.Attr{named("b"), named("a"), named("1")}, api.ErrOrder},
		{[]api.Attr{bad("b"), named("a")}, api.ErrValue},
	} {
		wantAttrs(t, c.l, c.want)
	}
}

// orders calls do with each order of l (the same memory each time).
func orders(l []api.Attr, do func([]api.Attr)) {
	var from func(int)
	from = func(i int) {
		if i == len(l) {
			do(l)
			return
		}
		for j := i; j < len(l); j++ {
			l[i], l[j] = l[j], l[i]
			from(i + 1)
			l[i], l[j] = l[j], l[i]
		}
	}
	from(0)
}

func TestAttrs(t *testing.T) {
	for _, want := range [][]api.Attr{nil, {}, list("a"), list("a", "b"), list("Z", "_", "a"), list("a", "a0", "a10", "a2"),
		{{Name: "n", Value: num(math.MinInt64)}, {Name: "s", Value: str("z")}, {Name: "t", Value: str("")}, named("u")},
		list("B", "_a", "a", "aa", "b"), list("A", "B", "Z", "_", "_0", "__", "a", "z")} {
		orders(slices.Clone(want), func(l []api.Attr) {
			stood := slices.Clone(l)
			got, err := value.Attrs(l...)
			if err != api.OK || !slices.Equal(got, want) {
				t.Fatalf("%#v: %#v, error %d", l, got, err)
			}
			if !slices.Equal(l, stood) {
				t.Fatalf("what was handed in is in another order: %#v, not %#v", l, stood)
			}
		})
	}
}

func wantNoAttrs(t *testing.T, l []api.Attr, want api.Errno) {
	t.Helper()
	stood := slices.Clone(l)
	if got, err := value.Attrs(l...); err != want || got != nil {
		t.Errorf("%#v: %#v, error %d, not %d", l, got, err, want)
	}
	if !slices.Equal(l, stood) {
		t.Errorf("what was handed in was written to: %#v, not %#v", l, stood)
	}
}

func TestAttrsRefuses(t *testing.T) {
	for _, c := range []struct {
		l    []api.Attr
		want api.Errno
	}{
		{list("a", "a"), api.ErrOrder},
		{list("b", "c", "a", "c"), api.ErrOrder},
		{list("a", "b", "a", "c", "d"), api.ErrOrder},
		{list("a", ""), api.ErrName},
		{list("x", "1", "y"), api.ErrName},
		{[]api.Attr{named("z"), bad("b"), named("a")}, api.ErrValue},
		// the first error of them sorted, not as they stood
		{[]api.Attr{named("9"), named("8"), bad("a")}, api.ErrName},
		{[]api.Attr{named("b"), named("b"), bad("a")}, api.ErrValue},
		{[]api.Attr{bad("c"), named("b"), named("b")}, api.ErrOrder},
		{[]api.Attr{bad("c"), named("b"), named("1")}, api.ErrName},
	} {
		orders(c.l, func(l []api.Attr) { wantNoAttrs(t, l, c.want) })
	}
	long := list("i", "h", "g", "f", "e", "d", "c", "b", "a")
	wantNoAttrs(t, long, api.ErrLong)
	wantNoAttrs(t, append(long, long...), api.ErrLong)
	wantNoAttrs(t, make([]api.Attr, 10000), api.ErrLong)
	wantNoAttrs(t, make([]api.Attr, api.MaxAttrs), api.ErrName)
}

// Those of one name stay as they stood: which one comes first says which error is told.
func TestAttrsOfOneName(t *testing.T) {
	for n := 2; n <= api.MaxAttrs; n++ {
		for at := range n {
			l := make([]api.Attr, n)
			for i := range l {
				l[i] = named("a")
			}
			l[at] = bad("a")
			want := api.ErrOrder // of the second one, ahead of what comes behind it
			if at < 2 {
				want = api.ErrValue
			}
			wantNoAttrs(t, l, want)
		}
	}
}

// R3: a list that was answered is shared with nobody.
func TestAttrsMemory(t *testing.T) {
	room := list("a", "b", "c", "d", "e")
	for n := range 5 {
		l := room[:n]
		got, _ := value.Attrs(l...)
		again, _ := value.Attrs(l...)
		_ = append(got, named("behind"))
		for i := range got {
			got[i] = named("other")
		}
		if !slices.Equal(room, list("a", "b", "c", "d", "e")) {
			t.Fatalf("of %d: what was handed in was written to: %#v", n, room)
		}
		for i := range l {
			l[i] = named("other")
		}
		if !slices.Equal(again, list("a", "b", "c", "d", "e")[:n]) {
			t.Fatalf("of %d: the answer is shared: %#v", n, again)
		}
		room = list("a", "b", "c", "d", "e")
	}
}

func wantGet(t *testing.T, l []api.Attr, name string, want api.Value, found bool) {
	t.Helper()
	if v, ok := value.Get(l, name); v != want || ok != found {
		t.Errorf("%q of %#v: %#v %v", name, l, v, ok)
	}
}

func TestGet(t *testing.T) {
	l := list("a", "aa", "b", "c", "x1", "y", "z0", "z1")
	for _, a := range l {
		wantGet(t, l, a.Name, a.Value, true)
	}
	for _, s := range []string{"", "A", "a1", "aaa", "d", "x", "z", "z2", "~", " a", strings.Repeat("a", api.MaxName+1)} {
		wantGet(t, l, s, api.Value{}, false)
		wantGet(t, nil, s, api.Value{}, false)
		wantGet(t, []api.Attr{}, s, api.Value{}, false)
	}
}

// Of lists that may not be, too: the first of that name, whatever stands around it.
func TestGetOfAnyList(t *testing.T) {
	l := []api.Attr{{Name: "z", Value: str("last")}, {Name: "a", Value: num(1)}, {Name: "b"}, {Name: "a", Value: num(2)},
		{Name: "", Value: num(3)}, {Name: "1", Value: api.Value{Kind: -1, N: 4, S: "4"}}, {Name: "b", Value: num(5)}, {Name: "z"}, {Name: "z2"}}
	wantGet(t, l, "z", str("last"), true)
	wantGet(t, l, "a", num(1), true)
	wantGet(t, l, "b", api.Value{}, true)
	wantGet(t, l, "", num(3), true)
	wantGet(t, l, "1", api.Value{Kind: -1, N: 4, S: "4"}, true)
	wantGet(t, l, "z2", api.Value{}, true)
	wantGet(t, l, "c", api.Value{}, false)
}

func wantSame(t *testing.T, a, b []api.Attr, want bool) {
	t.Helper()
	if value.SameAttrs(a, b) != want || value.SameAttrs(b, a) != want {
		t.Errorf("%#v; %#v: %v, %v", a, b, value.SameAttrs(a, b), value.SameAttrs(b, a))
	}
}

func TestSameAttrs(t *testing.T) {
	wantSame(t, nil, nil, true)
	wantSame(t, nil, []api.Attr{}, true)
	wantSame(t, []api.Attr{}, make([]api.Attr, 0, 4), true)
	wantSame(t, nil, make([]api.Attr, 1), false)
	l := append(list("a", "b", "c"), api.Attr{Name: "s", Value: str("text")}, api.Attr{Name: "1", Value: api.Value{Kind: -1, N: 1, S: "x"}})
	wantSame(t, l, slices.Clone(l), true)
	for i := range l {
		wantSame(t, l, l[:i], false)
		wantSame(t, l, l[i+1:], false)
		for _, change := range []func(a *api.Attr){
			func(a *api.Attr) { a.Name += "x" },
			func(a *api.Attr) { a.Name = "" },
			func(a *api.Attr) { a.Value.Kind++ },
			func(a *api.Attr) { a.Value.N-- },
			func(a *api.Attr) { a.Value.S += "\x00" },
		} {
			o := slices.Clone(l)
			change(&o[i])
			wantSame(t, l, o, false)
		}
	}
	// one by one: in the same order
	wantSame(t, []api.Attr{l[0], l[1]}, []api.Attr{l[1], l[0]}, false)
	wantSame(t, []api.Attr{l[0], l[0]}, []api.Attr{l[0], l[1]}, false)
	wantSame(t, []api.Attr{l[0], l[0]}, []api.Attr{l[0]}, false)
}

// R3: lists are not written to, not even behind their ends.
func TestListsStay(t *testing.T) {
	room := []api.Attr{named("c"), named("a"), bad("b"), named("a"), named("1"), named("z")}
	stood := slices.Clone(room)
	for n := range len(room) {
		value.CheckAttrs(room[:n])
		value.Get(room[:n], "a")
		value.SameAttrs(room[:n], room)
		value.Attrs(room[:n]...)
	}
	if !slices.Equal(room, stood) {
		t.Errorf("written to: %#v", room)
	}
}
