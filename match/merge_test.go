package match_test

import (
	"math"
	"slices"
	"testing"

	"eyrie/api"
	"eyrie/match"
)

// P10.2

func wantMerge(t *testing.T, a, b, want api.Partial, is bool) {
	t.Helper()
	for _, l := range [][2]api.Partial{{a, b}, {b, a}} {
		p, ok := match.Merge(l[0], l[1])
		if ok != is || is && !alike(p, want) || !is && !none(p) {
			t.Errorf("Merge of %s and %s: %s %v, not %s %v", shown(l[0]), shown(l[1]), shown(p), ok, shown(want), is)
		}
	}
}

func wantNoMerge(t *testing.T, a, b api.Partial) {
	t.Helper()
	wantMerge(t, a, b, api.Partial{}, false)
}

func TestMergeExample(t *testing.T) {
	a, b := partial(bound("a", ev(0, 1, 5))), partial(bound("b", ev(1, 0, 7)))
	whole := partial(bound("a", ev(0, 1, 5)), bound("b", ev(1, 0, 7)))
	wantMerge(t, a, b, whole, true)
	wantTimes(t, whole, 5, 7)
	wantNoMerge(t, a, partial(bound("c", ev(0, 1, 5))))
	wantNoMerge(t, a, partial(bound("a", ev(1, 0, 7))))
}

// None that may not be is merged, not even with no Bounds.
func TestMergeOfRefused(t *testing.T) {
	l := refused()
	for i, c := range l {
		wantNoMerge(t, c.p, api.Partial{})
		wantNoMerge(t, c.p, partial(bound("zzz", ev(12, 12, 12))))
		wantNoMerge(t, c.p, c.p)
		wantNoMerge(t, c.p, l[(i*7+1)%len(l)].p)
	}
	// both together would rise, and have each variable and each event once
	wantNoMerge(t, partial(bound("c", ev(0, 0, 0)), bound("b", ev(0, 1, 0))), partial(bound("a", ev(0, 2, 0))))
	wantNoMerge(t, partial(bound("c", ev(0, 0, 0)), bound("a", ev(0, 1, 0))), partial(bound("b", ev(0, 2, 0))))
}

func TestMergeWithNone(t *testing.T) {
	for _, p := range ordinary() {
		wantMerge(t, p, api.Partial{}, p, true)
		wantMerge(t, p, api.Partial{Bounds: []api.Bound{}}, p, true)
	}
}

// The empty Var stays alone.
func TestMergeOfTheEmptyVar(t *testing.T) {
	raw := partial(bound("", ev(9, 9, 9)))
	for _, p := range ordinary() {
		if len(p.Bounds) > 0 {
			wantNoMerge(t, raw, p)
		}
	}
	wantNoMerge(t, raw, raw)
	wantNoMerge(t, raw, partial(bound("", ev(0, 0, 0))))
}

// In common: one variable, one event, at each place of either.
func TestMergeOfWhatHasSomethingInCommon(t *testing.T) {
	for n := 1; n <= 6; n++ {
		p := row(n)
		for i := range n {
			for m := 1; m <= 6; m++ {
				o := partial(row(12).Bounds[6 : 6+m]...)
				for k := range o.Bounds {
					o.Bounds[k].Event.ID = api.ID{Source: 9, Seq: int64(k)}
				}
				wantMerge(t, p, o, partial(slices.Concat(p.Bounds, o.Bounds)...), true)
				for j := range m {
					twice := changed(o, map[int]api.Bound{j: bound(o.Bounds[j].Var, p.Bounds[i].Event)})
					wantNoMerge(t, p, twice)
					// the same ID, else another event
					twice.Bounds[j].Event.Time++
					twice.Bounds[j].Event.Type = "B"
					wantNoMerge(t, p, twice)
				}
				named := changed(o, map[int]api.Bound{0: bound(p.Bounds[i].Var, o.Bounds[0].Event)})
				wantNoMerge(t, p, named)
			}
		}
	}
}

// All bounds of both, rising, whatever the turns they take.
func TestMergeInTurns(t *testing.T) {
	whole := row(api.MaxTerms)
	for bits := range 1 << api.MaxTerms {
		var a, b api.Partial
		for i, x := range whole.Bounds {
			if bits>>i&1 == 1 {
				a.Bounds = append(a.Bounds, x)
			} else {
				b.Bounds = append(b.Bounds, x)
			}
		}
		if p, ok := match.Merge(a, b); !ok || !alike(p, whole) {
			t.Fatalf("Merge of %s and %s: %s %v", shown(a), shown(b), shown(p), ok)
		}
	}
}

// As many as may be, and one more.
func TestMergeOfTooMany(t *testing.T) {
	l := row(26).Bounds
	for n := range api.MaxTerms + 1 {
		for m := range api.MaxTerms + 1 {
			a, b := partial(l[:n]...), partial(l[n:n+m]...)
			whole := partial(l[:n+m]...)
			if n+m > api.MaxTerms {
				wantNoMerge(t, a, b)
			} else {
				wantMerge(t, a, b, whole, true)
			}
		}
	}
}

func TestMergeByChance(t *testing.T) {
	r, told := dice(), counted[bool]{}
	for range 60000 {
		a, b := some(r), some(r)
		switch r.IntN(8) {
		case 0:
			a = anyhow(r)
		case 1:
			b = anyhow(r)
		case 2: // whatever the IDs are, they are not in common
			for i := range b.Bounds {
				b.Bounds[i].Event.ID.Source += 8
			}
		}
		want, is := modelMerge(a, b)
		told[is]++
		wantMerge(t, a, b, want, is)
	}
	told.many(t, "Merge", 5000, true, false)
}

// Begin, End, Within.

func wantTimes(t *testing.T, p api.Partial, begin, end int64) {
	t.Helper()
	if match.Begin(p) != begin || match.End(p) != end {
		t.Errorf("%s: from %d to %d, not from %d to %d", shown(p), match.Begin(p), match.End(p), begin, end)
	}
}

func wantWithin(t *testing.T, p api.Partial, window int64, want bool) {
	t.Helper()
	if match.Within(p, window) != want {
		t.Errorf("%s within %d: %v", shown(p), window, !want)
	}
}

const (
	least    = math.MinInt64
	greatest = math.MaxInt64
)

func TestTimes(t *testing.T) {
	wantTimes(t, api.Partial{}, 0, 0)
	wantTimes(t, api.Partial{Bounds: []api.Bound{}}, 0, 0)
	for _, n := range []int64{0, 1, 7, api.MaxTime, api.Forever, -1, -7, least, greatest} {
		wantTimes(t, timed(n), n, n)
		wantTimes(t, timed(n, n), n, n)
	}
	for _, c := range []struct {
		p          api.Partial
		begin, end int64
	}{
		{timed(3, 5), 3, 5}, {timed(5, 3), 3, 5}, {timed(4, 3, 5), 3, 5}, {timed(5, 4, 3), 3, 5}, {timed(3, 5, 4), 3, 5}, {timed(0, 5), 0, 5}, {timed(5, 0), 0, 5},
		{timed(-3, -5), -5, -3}, {timed(-5, -3, -4), -5, -3}, {timed(-1, 1), -1, 1}, {timed(least, greatest), least, greatest}, {timed(greatest, 0, least), least, greatest},
		{timed(least, least+1), least, least + 1}, {timed(greatest, greatest-1), greatest - 1, greatest}, {timed(5, 5, 5, 5, 5, 5, 5, 5, 5, 5, 5, 6), 5, 6},
	} {
		wantTimes(t, c.p, c.begin, c.end)
	}
}

func TestWithin(t *testing.T) {
	// none and one lie within each window but those below 0
	for _, p := range []api.Partial{{}, {Bounds: []api.Bound{}}, timed(0), timed(9), timed(-9), timed(least), timed(greatest), timed(4, 4, 4)} {
		for _, w := range []int64{0, 1, 100, api.MaxTime, greatest} {
			wantWithin(t, p, w, true)
		}
		for _, w := range []int64{-1, -2, -api.MaxTime, least + 1, least} {
			wantWithin(t, p, w, false)
		}
	}
	for _, c := range []struct {
		p    api.Partial
		wide int64
	}{
		{timed(3, 5), 2}, {timed(5, 3), 2}, {timed(4, 9, 3), 6}, {timed(0, api.MaxTime), api.MaxTime}, {timed(-3, 5), 8}, {timed(-5, -3), 2},
		{timed(0, greatest), greatest}, {timed(-1, greatest-1), greatest}, {timed(least, -1), greatest}, {timed(least, least+4), 4}, {timed(greatest, greatest-4), 4}, {timed(0, 1), 1},
	} {
		wantWithin(t, c.p, c.wide, true)
		wantWithin(t, c.p, c.wide-1, false)
		wantWithin(t, c.p, greatest, true)
		wantWithin(t, c.p, -1, false)
		wantWithin(t, c.p, least, false)
		if c.wide < greatest {
			wantWithin(t, c.p, c.wide+1, true)
		}
	}
}

// A difference that has no place in an int64 is not within any window.
func TestWithinDoesNotWrap(t *testing.T) {
	for _, p := range []api.Partial{timed(least, greatest), timed(greatest, least), timed(least, 0), timed(-1, greatest), timed(least+1, 1), timed(-1<<62, 1<<62), timed(-1<<62-1, 1<<62, 0)} {
		for _, w := range []int64{least, -2, -1, 0, 1, 2, 1 << 62, greatest - 1, greatest} {
			wantWithin(t, p, w, false)
		}
	}
}

func TestTimesByChance(t *testing.T) {
	r, told := dice(), counted[bool]{}
	edges := []int64{least, least + 1, -1 << 62, -1, 0, 1, 1 << 62, greatest - 1, greatest}
	for range 40000 {
		p := anyhow(r)
		for i := range p.Bounds {
			if r.IntN(3) == 0 {
				p.Bounds[i].Event.Time = pick(r, edges...)
			}
		}
		l := modelTimes(p)
		wantTimes(t, p, l[0].Int64(), l[len(l)-1].Int64())
		w := pick(r, pick(r, edges...), int64(r.Uint64())>>r.IntN(64), int64(r.IntN(20)))
		told[modelWithin(p, w)]++
		wantWithin(t, p, w, modelWithin(p, w))
	}
	told.many(t, "Within", 5000, true, false)
}

// Get.

func wantGet(t *testing.T, p api.Partial, name string, want api.Event, is bool) {
	t.Helper()
	e, ok := match.Get(p, name)
	if ok != is || !alikeEvents(e, want) || !is && e.Attrs != nil {
		t.Errorf("%s: %q is %+v %v, not %+v %v", shown(p), name, e, ok, want, is)
	}
}

func TestGet(t *testing.T) {
	for _, p := range ordinary() {
		for _, b := range p.Bounds {
			wantGet(t, p, b.Var, b.Event, true)
			wantGet(t, p, b.Var+"x", api.Event{}, false)
		}
		for _, s := range []string{"none", "\x00", "1", "Aa"} {
			wantGet(t, p, s, api.Event{}, false)
		}
	}
	for _, p := range []api.Partial{{}, {Bounds: []api.Bound{}}, row(3)} {
		wantGet(t, p, "", api.Event{}, false)
	}
	// of those that may not be, too: the first one
	twice := partial(bound("b", ev(0, 1, 2)), bound("a", ev(0, 2, 3, attr("x", num(1)))), bound("", ev(0, 4, 5)), bound("a", ev(0, 3, 4)), bound("b", ev(0, 5, 6)), bound("", ev(0, 6, 7)))
	wantGet(t, twice, "a", twice.Bounds[1].Event, true)
	wantGet(t, twice, "b", twice.Bounds[0].Event, true)
	wantGet(t, twice, "", twice.Bounds[2].Event, true)
	wantGet(t, twice, "c", api.Event{}, false)
	wantGet(t, partial(bound("a", api.Event{})), "a", api.Event{}, true)
}

func TestGetByChance(t *testing.T) {
	r, told := dice(), counted[bool]{}
	for range 20000 {
		p := anyhow(r)
		for _, s := range []string{"", "a", "b", "c", "long_9", noise(r, 1)} {
			want, is := modelGet(p, s)
			told[is]++
			wantGet(t, p, s, want, is)
		}
	}
	told.many(t, "Get", 5000, true, false)
}
