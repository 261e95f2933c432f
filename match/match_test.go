package match_test

import (
	"math"
	"slices"
	"strings"
	"testing"

	"eyrie/api"
	"eyrie/match"
)

// P10.1

// refused are partial matches that may not be, and the error that Check should answer of each.
func refused() []bad {
	good, other := ev(0, 0, 0), ev(1, 1, 1)
	l := []bad{{row(api.MaxTerms + 1), api.ErrPartial}, {row(26), api.ErrPartial}, {partial(make([]api.Bound, 1000)...), api.ErrPartial},
		// the empty Var beside others
		{partial(bound("", good), bound("a", other)), api.ErrPartial}, {partial(bound("a", good), bound("", other)), api.ErrPartial},
		{partial(bound("", good), bound("", other)), api.ErrPartial}, {partial(bound("a", good), bound("b", other), bound("", ev(2, 0, 0))), api.ErrPartial},
		// Vars that do not rise
		{partial(bound("a", good), bound("a", other)), api.ErrPartial}, {partial(bound("b", good), bound("a", other)), api.ErrPartial},
		{partial(bound("aa", good), bound("a", other)), api.ErrPartial}, {partial(bound("a", good), bound("Z", other)), api.ErrPartial},
		{partial(bound("_", good), bound("A", other)), api.ErrPartial}, {partial(bound("a1", good), bound("a0", other)), api.ErrPartial},
		{partial(bound("a", good), bound("c", other), bound("b", ev(2, 0, 0))), api.ErrPartial}, {partial(bound("a", good), bound("b", other), bound("a", ev(2, 0, 0))), api.ErrPartial},
		// the same event
		{partial(bound("a", good), bound("b", good)), api.ErrPartial}, {partial(bound("a", good), bound("b", ev(0, 0, 9, attr("x", num(1))))), api.ErrPartial}}
	for _, s := range badNames() {
		l = append(l, bad{partial(bound(s, good)), api.ErrPartial}, bad{partial(bound("A", good), bound(s, other)), api.ErrPartial}, bad{partial(bound(s, good), bound("zz", other)), api.ErrPartial})
	}
	for _, c := range badEvents() {
		l = append(l, bad{partial(bound("", c.e)), c.want}, bad{partial(bound("a", c.e)), c.want}, bad{partial(bound("a", ev(9, 9, 9)), bound("b", c.e)), c.want})
	}
	l = append(l, atEachPlace()...)
	return append(l, several()...)
}

// atEachPlace are rows that are spoilt at one place.
func atEachPlace() []bad {
	var l []bad
	for _, n := range []int{2, 3, 7, api.MaxTerms} {
		for i := range n {
			p := row(n)
			l = append(l, bad{changed(p, map[int]api.Bound{i: bound("", p.Bounds[i].Event)}), api.ErrPartial}, bad{changed(p, map[int]api.Bound{i: bound("~", p.Bounds[i].Event)}), api.ErrPartial},
				bad{changed(p, map[int]api.Bound{i: bound(p.Bounds[i].Var, ev(14, -1, 0))}), api.ErrEvent}, bad{changed(p, map[int]api.Bound{i: bound(p.Bounds[i].Var, ev(14, 0, 0, attr("", num(1))))}), api.ErrName})
			for j := range i {
				same := p.Bounds[i].Event
				same.ID = p.Bounds[j].Event.ID
				l = append(l, bad{changed(p, map[int]api.Bound{i: bound(p.Bounds[i].Var, same)}), api.ErrPartial}, bad{changed(p, map[int]api.Bound{i: bound(p.Bounds[j].Var, p.Bounds[i].Event)}), api.ErrPartial})
			}
		}
	}
	return l
}

// several are partial matches for which several errors apply.
func several() []bad {
	good, other := ev(0, 0, 0), ev(1, 1, 1)
	event, name, value, long := ev(14, -1, 0), ev(14, 0, 0, attr("", num(1))), ev(13, 0, 0, attr("x", api.Value{})), ev(13, 1, 0, make([]api.Attr, 9)...)
	l := []bad{
		// too many, ahead of all
		{changed(row(api.MaxTerms+1), map[int]api.Bound{0: bound("a", event)}), api.ErrPartial}, {changed(row(api.MaxTerms+1), map[int]api.Bound{0: bound("a", name)}), api.ErrPartial},
		// place by place
		{partial(bound("a", event), bound("a", other)), api.ErrEvent}, {partial(bound("b", name), bound("a", other)), api.ErrName}, {partial(bound("a", value), bound("1", other)), api.ErrValue},
		{partial(bound("a", long), bound("b", good), bound("c", good)), api.ErrLong}, {partial(bound("a", name), bound("b", event)), api.ErrName}, {partial(bound("a", event), bound("b", name)), api.ErrEvent},
		{partial(bound("a", good), bound("b", value), bound("", other)), api.ErrValue}, {partial(bound("a", good), bound("b", long), bound("b", other)), api.ErrLong},
		{partial(bound("a", good), bound("", other), bound("c", name)), api.ErrPartial}, {partial(bound("a", good), bound("a", other), bound("c", name)), api.ErrPartial},
		{partial(bound("a", good), bound("b", good), bound("c", name)), api.ErrPartial},
		// at one place what is wrong with the bound comes ahead of what is wrong with the event
		{partial(bound("1", name)), api.ErrPartial}, {partial(bound("a b", event)), api.ErrPartial}, {partial(bound("", name), bound("a", good)), api.ErrPartial},
		{partial(bound("a", good), bound("a", name)), api.ErrPartial}, {partial(bound("b", good), bound("a", value)), api.ErrPartial}, {partial(bound("b", good), bound("", long)), api.ErrPartial},
		// an event that may not be is told of the first one that has its ID
		{partial(bound("a", name), bound("b", name)), api.ErrName}}
	for _, e := range []api.Event{name, value, long} {
		e.ID = good.ID
		l = append(l, bad{partial(bound("a", good), bound("b", e)), api.ErrPartial}, bad{partial(bound("a", good), bound("b", other), bound("c", e)), api.ErrPartial})
	}
	return l
}

func wantCheck(t *testing.T, p api.Partial, want api.Errno) {
	t.Helper()
	if err := match.Check(p); err != want {
		t.Errorf("Check of %s: error %d, not %d", shown(p), err, want)
	}
}

func TestCheckTakes(t *testing.T) {
	for _, p := range ordinary() {
		wantCheck(t, p, api.OK)
	}
	r := dice()
	for range 5000 {
		wantCheck(t, some(r), api.OK)
	}
}

func TestCheckRefuses(t *testing.T) {
	for _, c := range refused() {
		wantCheck(t, c.p, c.want)
	}
}

// Each byte as a name, at its beginning and behind it.
func TestCheckOfNames(t *testing.T) {
	for c := range 256 {
		first, later := string([]byte{byte(c)}), string([]byte{'a', byte(c)})
		wantCheck(t, partial(bound(first, ev(0, 0, 0))), modelCheck(partial(bound(first, ev(0, 0, 0)))))
		wantCheck(t, partial(bound("A", ev(0, 0, 0)), bound(later, ev(0, 1, 0))), modelCheck(partial(bound("A", ev(0, 0, 0)), bound(later, ev(0, 1, 0)))))
	}
	for n := range 40 {
		want := api.OK
		if n > api.MaxName {
			want = api.ErrPartial
		}
		wantCheck(t, partial(bound(strings.Repeat("n", n), ev(0, 0, 0))), want)
	}
}

func TestCheckByChance(t *testing.T) {
	r, told := dice(), counted[api.Errno]{}
	for range 40000 {
		p := anyhow(r)
		want := modelCheck(p)
		told[want]++
		wantCheck(t, p, want)
	}
	told.many(t, "Check", 30, api.OK, api.ErrPartial, api.ErrEvent, api.ErrName, api.ErrValue, api.ErrOrder, api.ErrLong)
}

func TestOf(t *testing.T) {
	want := func(name string, e api.Event, err api.Errno) {
		t.Helper()
		p, got := match.Of(name, e)
		if err == api.OK && (got != api.OK || !alike(p, partial(bound(name, e)))) || err != api.OK && (got != err || !none(p)) {
			t.Errorf("Of %q and %+v: %s, error %d, not %d", name, e, shown(p), got, err)
		}
	}
	for _, e := range []api.Event{ev(0, 0, 0), ev(api.MaxSources-1, api.MaxTime, api.MaxTime, full()...), ev(1, 2, 3, []api.Attr{}...)} {
		want("", e, api.OK)
		for _, s := range names() {
			want(s, e, api.OK)
		}
		for _, s := range badNames() {
			want(s, e, api.ErrPartial)
		}
	}
	for _, c := range badEvents() {
		want("", c.e, c.want)
		want("a", c.e, c.want)
		want("1", c.e, api.ErrPartial)
	}
}

// unlike are partial matches of which each differs from p in one thing alone.
func unlike(p api.Partial) []api.Partial {
	l := []api.Partial{partial(append(slices.Clone(p.Bounds), bound("zz", ev(0, 77, 0)))...)}
	for i := range p.Bounds {
		l = append(l, partial(slices.Delete(slices.Clone(p.Bounds), i, i+1)...))
		changes := []func(b *api.Bound){
			func(b *api.Bound) { b.Var += "x" }, func(b *api.Bound) { b.Event.ID.Source++ }, func(b *api.Bound) { b.Event.ID.Seq++ },
			func(b *api.Bound) { b.Event.Time++ }, func(b *api.Bound) { b.Event.Type += "x" },
			func(b *api.Bound) { b.Event.Attrs = append(slices.Clone(b.Event.Attrs), attr("zz", num(1))) }}
		for j := range p.Bounds[i].Event.Attrs {
			for _, change := range []func(a *api.Attr){func(a *api.Attr) { a.Name += "y" }, func(a *api.Attr) { a.Value.Kind = 3 - a.Value.Kind }, func(a *api.Attr) { a.Value.N++ }, func(a *api.Attr) { a.Value.S += "z" }} {
				changes = append(changes, func(b *api.Bound) {
					b.Event.Attrs = slices.Clone(b.Event.Attrs)
					change(&b.Event.Attrs[j])
				})
			}
			changes = append(changes, func(b *api.Bound) { b.Event.Attrs = slices.Delete(slices.Clone(b.Event.Attrs), j, j+1) })
		}
		for _, change := range changes {
			o := partial(slices.Clone(p.Bounds)...)
			change(&o.Bounds[i])
			l = append(l, o)
		}
	}
	return l
}

func wantSame(t *testing.T, a, b api.Partial, want bool) {
	t.Helper()
	if match.Same(a, b) != want || match.Same(b, a) != want {
		t.Errorf("%s, %s: Same %v and %v, not %v", shown(a), shown(b), match.Same(a, b), match.Same(b, a), want)
	}
}

func TestSame(t *testing.T) {
	l := ordinary()
	for _, c := range refused() {
		l = append(l, c.p)
	}
	for _, p := range l {
		wantSame(t, p, p, true)
		wantSame(t, p, deep(p), true)
		if len(p.Bounds) > 20 || len(p.Bounds) > 0 && len(p.Bounds[len(p.Bounds)-1].Event.Attrs) > 10 {
			continue
		}
		for _, o := range unlike(p) {
			wantSame(t, p, o, false)
		}
	}
	// the same bounds at other places
	wantSame(t, partial(bound("a", ev(0, 0, 0)), bound("b", ev(0, 1, 0))), partial(bound("b", ev(0, 1, 0)), bound("a", ev(0, 0, 0))), false)
}

// R4
func TestEmptyLists(t *testing.T) {
	empty := ev(0, 0, 0)
	empty.Attrs = []api.Attr{}
	pairs := [][2]api.Partial{{{}, {Bounds: []api.Bound{}}}, {partial(bound("a", ev(0, 0, 0))), partial(bound("a", empty))}}
	for _, l := range pairs {
		a, b := l[0], l[1]
		wantSame(t, a, b, true)
		wantCheck(t, a, api.OK)
		wantCheck(t, b, api.OK)
		wantCompare(t, a, b, 0)
		if match.Begin(a) != match.Begin(b) || match.End(a) != match.End(b) || match.Within(a, 0) != match.Within(b, 0) || match.Within(a, -1) != match.Within(b, -1) {
			t.Errorf("%s: times", shown(a))
		}
		if string(byBytes(t, a)) != string(byBytes(t, b)) || !alike(match.Clone(a), match.Clone(b)) {
			t.Errorf("%s: bytes or clones", shown(a))
		}
		s := match.NewSet(a)
		if !s.Has(b) || s.Add(b) || !s.Same(match.NewSet(b)) {
			t.Errorf("%s: sets", shown(a))
		}
		x, is := match.Merge(a, row(0))
		y, also := match.Merge(b, row(0))
		if !is || !also || !alike(x, y) {
			t.Errorf("%s: Merge", shown(a))
		}
	}
	wantSet(t, match.NewSet())
	wantSet(t, match.NewSet([]api.Partial{}...))
}

func TestClone(t *testing.T) {
	l := ordinary()
	for _, c := range refused() {
		l = append(l, c.p)
	}
	for _, p := range l {
		c := match.Clone(p)
		if !alike(c, p) {
			t.Errorf("%s: Clone %s", shown(p), shown(c))
		}
		if p.Bounds == nil && c.Bounds != nil {
			t.Errorf("a clone of the zero value: %#v", c)
		}
	}
}

// P10.3

func wantCompare(t *testing.T, a, b api.Partial, want int) {
	t.Helper()
	if n := match.Compare(a, b); n != want {
		t.Errorf("%s, %s: Compare %d, not %d", shown(a), shown(b), n, want)
	}
}

// risingOnes rise by Compare; some of them may not be.
func risingOnes() []api.Partial {
	id := func(source int, seq int64) api.Event { return ev(source, seq, 5) }
	l := []api.Partial{{}}
	for _, s := range []string{"", "\x00", "A", "Z", "_", "a"} {
		l = append(l, partial(bound(s, id(9, 9))))
	}
	// one variable, by IDs
	for _, e := range []api.Event{id(10, 4), id(10, 5), id(15, math.MinInt64), id(15, -1), id(15, 0), id(15, 1), id(15, 2), id(15, 10), id(15, 1<<32), id(15, math.MaxInt64),
		id(16, math.MinInt64), id(16, 0), id(math.MaxInt, 0)} {
		l = append(l, partial(bound("a", e)))
	}
	// one that begins another one is the lesser; the first place counts ahead of the second
	l = append(l, partial(bound("aa", id(math.MinInt, 7))), partial(bound("aa", id(-1, 7))), partial(bound("aa", id(0, 7))),
		partial(bound("aa", id(0, 7)), bound("", id(0, 0))), partial(bound("aa", id(0, 7)), bound("", id(0, 0)), bound("", id(0, 0))),
		partial(bound("aa", id(0, 7)), bound("b", id(0, 0))), partial(bound("aa", id(0, 7)), bound("b", id(0, 1))), partial(bound("aa", id(0, 7)), bound("b", id(1, 0))),
		partial(bound("aa", id(0, 7)), bound("b", id(1, 0)), bound("c", id(0, 0))), partial(bound("aa", id(0, 7)), bound("c", id(0, 0))),
		partial(bound("aa", id(0, 8))), partial(bound("aa", id(0, 8)), bound("b", id(0, 0))), partial(bound("aa", id(1, 0)), bound("a", id(0, 0))),
		partial(bound("b", id(0, 0)), bound("c", id(0, 0))), partial(bound("c", id(0, 0))), partial(bound("\xff", id(0, 0))))
	return l
}

func TestCompare(t *testing.T) {
	l := risingOnes()
	for i, a := range l {
		for j, b := range l {
			want := 0
			if i < j {
				want = -1
			} else if i > j {
				want = 1
			}
			wantCompare(t, a, b, want)
		}
	}
}

// What else an event has counts for nothing.
func TestCompareOfOtherEvents(t *testing.T) {
	for _, p := range ordinary() {
		o := deep(p)
		for i := range o.Bounds {
			o.Bounds[i].Event.Time++
			o.Bounds[i].Event.Type += "x"
			o.Bounds[i].Event.Attrs = []api.Attr{attr("other", num(1))}
		}
		wantCompare(t, p, o, 0)
		wantCompare(t, o, p, 0)
	}
}

func TestCompareByChance(t *testing.T) {
	r, told := dice(), counted[int]{}
	for range 40000 {
		a, b := anyhow(r), anyhow(r)
		switch r.IntN(4) {
		case 0:
			b = partial(slices.Concat(a.Bounds, b.Bounds)...)
		case 1:
			b = deep(a)
			for i := range b.Bounds {
				b.Bounds[i].Event.ID.Seq += int64(r.IntN(20) / 19)
				b.Bounds[i].Event.ID.Source += r.IntN(20) / 19
			}
		}
		want := modelCompare(a, b)
		told[want]++
		wantCompare(t, a, b, want)
		wantCompare(t, b, a, -want)
	}
	told.many(t, "Compare", 2000, -1, 0, 1)
}
