package den_test

import (
	"slices"
	"testing"

	"eyrie/api"
	"eyrie/check"
	"eyrie/den"
	"eyrie/match"
)

// everyPartial goes through all that bind some of these variables, each to one of the events.
func everyPartial(vars []string, l []api.Event, tell func(api.Partial)) {
	var choose func(at int, chosen []api.Bound)
	choose = func(at int, chosen []api.Bound) {
		if at == len(vars) {
			tell(partial(chosen...))
			return
		}
		choose(at+1, chosen)
		for _, e := range l {
			choose(at+1, append(slices.Clip(chosen), bound(vars[at], e)))
		}
	}
	choose(0, nil)
}

// P11.5: All tells just those of which Is says so.
func TestTwoWaysToSayIt(t *testing.T) {
	r, sizes, all := dice(), counted[int]{}, 0
	for range 2000 {
		p, l := somePattern(r, 1+r.IntN(7)), someEvents(r, 4)
		var want, fits []api.Partial
		everyPartial(check.Vars(p.Root), l, func(m api.Partial) {
			all++
			if den.Is(p, m) {
				want = append(want, match.Clone(m))
			}
			if den.Fits(p.Root, m) {
				fits = append(fits, match.Clone(m))
			}
		})
		got, err := den.All(p, l...)
		sizes[min(len(got), 6)/2]++ // in twos
		slices.SortFunc(want, match.Compare)
		if err != api.OK || !slices.EqualFunc(got, want, alike) {
			t.Fatalf("%s within %d, %d conditions, over%s: All %s, Is %s", shownNode(p.Root), p.Window, len(p.Where), shownEvents(l), shownAll(got), shownAll(want))
		}
		got, err = den.Node(p.Root, l...)
		slices.SortFunc(fits, match.Compare)
		if err != api.OK || !slices.EqualFunc(got, fits, alike) {
			t.Fatalf("%s over%s: Node %s, Fits %s", shownNode(p.Root), shownEvents(l), shownAll(got), shownAll(fits))
		}
	}
	sizes.many(t, "All", 10, 0, 1, 2, 3)
	if all < 100000 {
		t.Errorf("%d partial matches were asked for", all)
	}
}

// P11.6: each match over some events is one over more.
func TestMoreEventsNoFewerMatches(t *testing.T) {
	r, more := dice(), counted[bool]{}
	for range 2000 {
		p, l := somePattern(r, 1+r.IntN(7)), someEvents(r, 9)
		last, _ := den.All(p)
		for i := range l {
			all, err := den.All(p, l[:i+1]...)
			if err != api.OK {
				t.Fatalf("error %d", err)
			}
			for _, m := range last {
				if !slices.ContainsFunc(all, func(o api.Partial) bool { return alike(m, o) }) {
					t.Fatalf("%s over%s: %s is no match any more", shownNode(p.Root), shownEvents(l[:i+1]), shown(m))
				}
			}
			more[len(all) > len(last)]++
			// what is new has the new event
			for _, m := range all {
				old := slices.ContainsFunc(last, func(o api.Partial) bool { return alike(m, o) })
				has := slices.ContainsFunc(m.Bounds, func(b api.Bound) bool { return b.Event.ID == l[i].ID })
				if old == has {
					t.Fatalf("%s over%s: %s", shownNode(p.Root), shownEvents(l[:i+1]), shown(m))
				}
			}
			last = all
		}
	}
	more.many(t, "more matches", 1000, true, false)
}

// P11.7: the order of the events changes nothing.
func TestNoOrder(t *testing.T) {
	r, full := dice(), counted[api.Errno]{}
	for i := range 2000 {
		p, l := somePattern(r, 1+r.IntN(7)), someEvents(r, 10)
		if i%20 == 0 { // of which there may be too many
			p.Root, l = someTree(r, 8, letters(7)), many("A", 40, 0)
			for j := range l {
				l[j].Type = pick(r, "A", "B")
			}
			p.Where = nil
		}
		want, err := den.All(p, l...)
		nodes, _ := den.Node(p.Root, l...)
		full[err]++
		for range 3 {
			r.Shuffle(len(l), func(i, j int) { l[i], l[j] = l[j], l[i] })
			got, e := den.All(p, l...)
			if e != err || !slices.EqualFunc(got, want, alike) {
				t.Fatalf("%s over%s: %s, error %d, not %s, error %d", shownNode(p.Root), shownEvents(l), shownAll(got), e, shownAll(want), err)
			}
			if got, _ = den.Node(p.Root, l...); !slices.EqualFunc(got, nodes, alike) {
				t.Fatalf("%s over%s: %s, not %s", shownNode(p.Root), shownEvents(l), shownAll(got), shownAll(nodes))
			}
		}
	}
	full.many(t, "All", 10, api.OK, api.ErrFull)
}
