package den_test

import (
	"math"
	"slices"
	"testing"

	"eyrie/api"
	"eyrie/check"
	"eyrie/den"
)

// P11.3

func TestWithin(t *testing.T) {
	wantTimes := func(window int64, want bool, times ...int64) {
		t.Helper()
		var m api.Partial
		for i, at := range times {
			m.Bounds = append(m.Bounds, bound(letters(9)[i], ev(i, "A", at)))
		}
		wantWithin(t, window, m, want)
		slices.Reverse(m.Bounds)
		wantWithin(t, window, m, want)
	}
	// without bounds never
	for _, window := range []int64{0, 1, 5, -1, math.MinInt64, math.MaxInt64} {
		wantTimes(window, false)
		wantWithin(t, window, api.Partial{Bounds: []api.Bound{}}, false)
	}
	wantTimes(5, true, 7)
	wantTimes(0, true, 7)
	wantTimes(0, true, 7, 7, 7)
	wantTimes(-1, false, 7)
	wantTimes(-1, false, 7, 7)
	wantTimes(2, true, 5, 7)
	wantTimes(1, false, 5, 7)
	wantTimes(3, true, 7, 6, 9, 8)
	wantTimes(2, false, 7, 6, 9, 8)
	wantTimes(api.MaxTime, true, 0, api.MaxTime)
	wantTimes(api.MaxTime-1, false, 0, api.MaxTime)
	// times that may not be
	wantTimes(3, true, -5, -2)
	wantTimes(2, false, -5, -2)
	wantTimes(math.MaxInt64, true, 0, math.MaxInt64)
	wantTimes(math.MaxInt64-1, false, 0, math.MaxInt64)
	wantTimes(math.MaxInt64, false, -1, math.MaxInt64)
	wantTimes(math.MaxInt64, false, math.MinInt64, math.MaxInt64)
	wantTimes(1, false, math.MinInt64, math.MaxInt64)
	wantTimes(0, true, math.MinInt64, math.MinInt64)
	// nothing else of the pattern or of the partial match counts
	m := partial(bound("1", api.Event{Time: 3}), bound("1", api.Event{Time: 8}), bound("", api.Event{Time: 4}))
	for _, p := range []api.Pattern{{Window: 5}, {Window: 5, Name: "p", Root: term("A", "a"), Where: []api.Cond{is("a", 1)}}, {Window: 5, Where: make([]api.Cond, 20)}} {
		if !den.Within(p, m) {
			t.Errorf("not within %+v", p)
		}
		p.Window = 4
		if den.Within(p, m) {
			t.Errorf("within %+v", p)
		}
	}
}

func TestAll(t *testing.T) {
	l := events(t, "A1 B3 B9")
	wantAll(t, pattern(t, "pattern p within 5 : A as a ; B as b"), l, "a0 b1")
	wantAll(t, pattern(t, "pattern p within 2 : A as a ; B as b"), l, "a0 b1")
	wantAll(t, pattern(t, "pattern p within 1 : A as a ; B as b"), l)
	wantAll(t, pattern(t, "pattern p within 7 : A as a ; B as b"), l, "a0 b1")
	wantAll(t, pattern(t, "pattern p within 8 : A as a ; B as b"), l, "a0 b1", "a0 b2")
	wantAll(t, pattern(t, "pattern p within 1099511627776 : A as a ; B as b"), l, "a0 b1", "a0 b2")
	wantAll(t, pattern(t, "pattern p within 9 : B as b ; A as a"), l)
	wantAll(t, pattern(t, "pattern p within 6 : B as b & B as a"), l, "a1 b2", "a2 b1")
	wantAll(t, pattern(t, "pattern p within 5 : B as b & B as a"), l)
	wantAll(t, pattern(t, "pattern p within 1 : B as b"), l, "b1", "b2")
	wantAll(t, pattern(t, "pattern p within 2 : B as b | A as a & B as b"), l, "b1", "b2", "a0 b1")
	wantAll(t, pattern(t, "pattern p within 5 : A as a & A as b"), events(t, "A1 A1"), "a0 b1", "a1 b0")
	wantAll(t, pattern(t, "pattern p within 5 : A as a"), nil)
	wantAll(t, pattern(t, "pattern p within 1099511627776 : A as a & B as b"), events(t, "A1099511627776 B0"), "a0 b1")
	wantAll(t, pattern(t, "pattern p within 1099511627775 : A as a & B as b"), events(t, "A1099511627776 B0"))
}

func TestAllWhere(t *testing.T) {
	l := events(t, "A1:1 B2:1 B3:2 B4 A5:2")
	wantAll(t, pattern(t, "pattern p within 9 : A as a & B as b where a.x = b.x"), l, "a0 b1", "a4 b2")
	wantAll(t, pattern(t, "pattern p within 9 : A as a & B as b where a.x < b.x"), l, "a0 b2")
	wantAll(t, pattern(t, "pattern p within 9 : A as a & B as b where a.x != b.x"), l, "a0 b2", "a4 b1")
	wantAll(t, pattern(t, "pattern p within 9 : A as a & B as b where a.x = 1, b.x > 0"), l, "a0 b1", "a0 b2")
	wantAll(t, pattern(t, "pattern p within 1 : A as a & B as b where a.x = 1, b.x > 0"), l, "a0 b1")
	wantAll(t, pattern(t, "pattern p within 9 : A as a & B as b where a.x = 1, b.x > 0, b.x < 2, a.x = 2"), l)
	// of a variable that is not bound each condition holds
	wantAll(t, pattern(t, "pattern p within 9 : A as a | B as b where a.x = 1"), l, "a0", "b1", "b2", "b3")
	wantAll(t, pattern(t, "pattern p within 9 : A as a | B as b where a.x < b.x"), l, "a0", "a4", "b1", "b2", "b3")
	wantAll(t, pattern(t, "pattern p within 9 : A as a | B as b where a.x < b.x, b.x > 1"), l, "a0", "a4", "b2")
	// the last one of many conditions counts
	p := pattern(t, "pattern p within 9 : A as a & B as b where a.x = b.x")
	for range api.MaxConds - 2 {
		p.Where = append(p.Where, p.Where[0])
	}
	wantAll(t, p, l, "a0 b1", "a4 b2")
	p.Where = append(p.Where, is("b", 2))
	wantAll(t, p, l, "a4 b2")
}

func TestAllErrors(t *testing.T) {
	good := pattern(t, "pattern p within 5 : A as a & A as b & A as c & A as d where a.x = 1")
	with := func(change func(p *api.Pattern)) api.Pattern {
		p := check.Clone(good)
		change(&p)
		return p
	}
	faults := map[api.Errno][]api.Pattern{
		api.ErrTitle: {{}, with(func(p *api.Pattern) { p.Name = "" }), with(func(p *api.Pattern) { p.Window = 0 }), with(func(p *api.Pattern) { p.Window = api.MaxTime + 1 }), with(func(p *api.Pattern) { p.Window, p.Root = -1, api.Node{} })},
		api.ErrNode:  {with(func(p *api.Pattern) { p.Root = api.Node{} }), with(func(p *api.Pattern) { p.Root.Kids[3].Type = "" })},
		api.ErrDeep:  {with(func(p *api.Pattern) { p.Root = and(terms(13, "A")...) })},
		api.ErrVar:   {with(func(p *api.Pattern) { p.Root.Kids[3].Var = "a" })},
		api.ErrCond: {with(func(p *api.Pattern) { p.Root.Kids[2].Tests = make([]api.Cond, 1) }), with(func(p *api.Pattern) { p.Where[0].Rel = 7 }), with(func(p *api.Pattern) { p.Where = append(p.Where, is("e", 1)) }),
			with(func(p *api.Pattern) { p.Where = slices.Repeat(p.Where, api.MaxConds+1) })},
	}
	tooMany, full := many("A", 65, 0), many("A", 17, 0)
	l := [][]api.Event{nil, full[:3], tooMany, full, {{}}, {full[0], full[0]}}
	for err, patterns := range faults {
		for _, p := range patterns {
			for _, events := range l {
				wantAllErr(t, p, events, err)
			}
			wantIs(t, p, partial(bound("a", full[0]), bound("b", full[1]), bound("c", full[2]), bound("d", full[3])), false)
		}
	}
	for i, err := range []api.Errno{api.OK, api.OK, api.ErrLong, api.ErrFull, api.ErrDen, api.ErrDen} {
		if err == api.OK {
			wantAll(t, good, l[i])
			continue
		}
		wantAllErr(t, good, l[i], err)
	}
	wantAllErr(t, good, append(tooMany, tooMany...), api.ErrLong)
	wantAllErr(t, good, append(slices.Clone(full), full[16]), api.ErrDen)
}

func TestWalkStoppedEarly(t *testing.T) {
	p := pattern(t, "pattern p within 50 : A as a ; A as b")
	l := many("A", 8, 0)
	all, _ := den.All(p, l...)
	if len(all) != 28 {
		t.Fatalf("%d matches", len(all))
	}
	seq := den.Walk(p, l...)
	for n := range all {
		i := 0
		for m := range seq {
			if !alike(m, all[i]) {
				t.Errorf("%d: %s, not %s", i, shown(m), shown(all[i]))
			}
			if i == n {
				break
			}
			i++
		}
		if i != n {
			t.Errorf("stopped behind %d, not %d", i, n)
		}
	}
	if got := slices.Collect(seq); !slices.EqualFunc(got, all, alike) {
		t.Errorf("%s, not %s", shownAll(got), shownAll(all))
	}
}

// R3: an iterator tells what was there when it was asked for.
func TestWalkTellsWhatWasThere(t *testing.T) {
	p := pattern(t, "pattern p within 50 : A as a[x = 1] ; B as b where a.x = b.x")
	l := events(t, "A1:1 B2:1 B3:1 B4:2")
	seq := den.Walk(p, l...)
	none := den.Walk(p, l[:1]...)
	bad := den.Walk(api.Pattern{}, l...)
	p.Window, p.Root.Kids[0].Type, p.Root.Kids[0].Tests[0], p.Where[0] = 1, "X", api.Cond{}, api.Cond{}
	for i := range l {
		if len(l[i].Attrs) > 0 {
			l[i].Attrs[0] = attr("y", num(9))
		}
		l[i] = api.Event{}
	}
	for range 2 {
		var got []api.Partial
		for m := range seq {
			got = append(got, m)
			if b := m.Bounds[0]; b.Event.Attrs[0] != attr("x", num(1)) || b.Event.Type != "A" {
				t.Errorf("%+v", b)
			}
			m.Bounds[0].Event.Attrs[0] = attr("z", num(9))
			m.Bounds[1].Event.Time = 77
		}
		if shownAll(got) != "a0 b1, a0 b2" {
			t.Errorf("%s", shownAll(got))
		}
		// what was told is nobody's else
		for _, m := range got {
			m.Bounds[0] = bound("spoilt", api.Event{})
		}
	}
	if len(slices.Collect(none)) != 0 || len(slices.Collect(bad)) != 0 {
		t.Error("matches of nothing")
	}
}

// Patterns and events by chance against the chapter's words.
func TestAllByChance(t *testing.T) {
	r, sizes := dice(), counted[int]{}
	for range 8000 {
		p, l := somePattern(r, 1+r.IntN(7)), someEvents(r, 9)
		want, err := modelAll(p, l...)
		got, e := den.All(p, l...)
		sizes[min(len(got), 10)]++
		if e != err || !slices.EqualFunc(got, want, alike) {
			t.Fatalf("%s within %d, %d conditions, over%s: %s, error %d, not %s, error %d", shownNode(p.Root), p.Window, len(p.Where), shownEvents(l), shownAll(got), e, shownAll(want), err)
		}
		if walked := listed(p, l); !slices.EqualFunc(walked, want, alike) || den.Many(p, l...) != len(want) {
			t.Fatalf("%s over%s: %s by Walk, %d by Many, not %s", shownNode(p.Root), shownEvents(l), shownAll(walked), den.Many(p, l...), shownAll(want))
		}
	}
	sizes.many(t, "All", 150, 0, 1, 2, 3, 10)
}
