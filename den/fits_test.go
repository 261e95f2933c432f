package den_test

import (
	"math/rand/v2"
	"slices"
	"strings"
	"testing"

	"eyrie/api"
	"eyrie/check"
	"eyrie/den"
	"eyrie/match"
)

// P11.4

func TestFitsTerms(t *testing.T) {
	l := events(t, "A1 B3 A3:7")
	n := tree(t, "A as a")
	wantFits(t, n, partialOf(t, l, "a0"), true)
	wantFits(t, n, partialOf(t, l, "a2"), true)
	wantFits(t, n, partialOf(t, l, "a1"), false)
	wantFits(t, n, partialOf(t, l, "b0"), false)
	wantFits(t, n, partialOf(t, l, "a0 b2"), false)
	wantFits(t, n, partialOf(t, l, "a0 b1"), false)
	wantFits(t, n, partialOf(t, l, ""), false)
	wantFits(t, n, partial(bound("", l[0])), false)
	wantFits(t, tree(t, "A as a[x = 7]"), partialOf(t, l, "a2"), true)
	wantFits(t, tree(t, "A as a[x = 7]"), partialOf(t, l, "a0"), false)
	wantFits(t, tree(t, "A as a[x = 7, x > 8]"), partialOf(t, l, "a2"), false)
}

func TestFitsOrs(t *testing.T) {
	l := events(t, "A1 B3 C5")
	n := tree(t, "A as a | B as b | (C as c ; D as d) | C as a")
	for _, text := range []string{"a0", "b1", "a2"} {
		wantFits(t, n, partialOf(t, l, text), true)
	}
	for _, text := range []string{"", "a1", "b0", "b2", "c2", "a0 b1", "c0"} {
		wantFits(t, n, partialOf(t, l, text), false)
	}
	wantFits(t, tree(t, "A as a | A as a ; B as b"), partialOf(t, l, "a0 b1"), true)
	wantFits(t, tree(t, "A as a ; B as b | A as a"), partialOf(t, l, "a0"), true)
}

func TestFitsAnds(t *testing.T) {
	l := events(t, "A1 B3 A3 A9 C9")
	n := tree(t, "A as a & B as b")
	for _, text := range []string{"a0 b1", "a2 b1", "a3 b1"} {
		wantFits(t, n, partialOf(t, l, text), true)
	}
	for _, text := range []string{"", "a0", "b1", "a0 b2", "a1 b0", "a0 b1 c4", "a0 c4", "a0 c1"} {
		wantFits(t, n, partialOf(t, l, text), false)
	}
	n = tree(t, "(A as a | B as b) & (A as c | B as d)")
	for _, text := range []string{"a0 c2", "a0 d1", "b1 c0"} {
		wantFits(t, n, partialOf(t, l, text), true)
	}
	for _, text := range []string{"a0", "c0", "a0 b1", "c0 d1", "a0 b1 c2", "a0 c2 d1", "a0 e4 c2"} {
		wantFits(t, n, partialOf(t, l, text), false)
	}
	// one event stands for no two variables
	n = tree(t, "A as a & A as b & (A as c | B as d)")
	wantFits(t, n, partialOf(t, l, "a0 b2 c3"), true)
	wantFits(t, n, partialOf(t, l, "a3 b2 d1"), true)
	for _, text := range []string{"a0 b0 c3", "a0 b2 c0", "a0 b2 c2", "a2 b2 d1"} {
		wantFits(t, n, partialOf(t, l, text), false)
	}
	twin := partialOf(t, l, "a0 b2 c3")
	twin.Bounds[2].Event.ID = twin.Bounds[0].Event.ID
	wantFits(t, n, twin, false)
}

func TestFitsSeqs(t *testing.T) {
	l := events(t, "A1 B5 C4 D7 C6 D2 B1")
	n := tree(t, "A as a ; B as b")
	wantFits(t, n, partialOf(t, l, "a0 b1"), true)
	wantFits(t, n, partialOf(t, l, "a0 b6"), false) // at the same time
	n = tree(t, "B as b ; A as a")
	wantFits(t, n, partialOf(t, l, "a0 b1"), false)
	wantFits(t, n, partialOf(t, l, "a0 b6"), false)
	n = tree(t, "(A as a & B as b) ; (C as c & D as d)")
	wantFits(t, n, partialOf(t, l, "a0 b1 c4 d3"), true)
	wantFits(t, n, partialOf(t, l, "a0 b1 c2 d3"), false)
	wantFits(t, n, partialOf(t, l, "a0 b1 c4 d5"), false)
	wantFits(t, n, partialOf(t, l, "a0 b6 c2 d5"), true)
	wantFits(t, n, partialOf(t, l, "a0 b6 c2"), false)
	n = tree(t, "(A as a & D as d) ; C as c ; B as b")
	wantFits(t, n, partialOf(t, l, "a0 b1 c2 d5"), true)
	wantFits(t, n, partialOf(t, l, "a0 b1 c4 d5"), false)
	wantFits(t, n, partialOf(t, l, "a0 b1 c2 d3"), false)
	n = tree(t, "A as a ; (D as d | X as x) ; C as c")
	wantFits(t, n, partialOf(t, l, "a0 c2 d5"), true)
	wantFits(t, n, partialOf(t, l, "a0 c2"), false)
	wantFits(t, n, partialOf(t, l, "a0 c2 d3"), false)
	// at the time 0, which is no End of a kid ahead
	l = events(t, "A0 B1 B0")
	wantFits(t, tree(t, "A as a ; B as b"), partialOf(t, l, "a0 b1"), true)
	wantFits(t, tree(t, "A as a ; B as b"), partialOf(t, l, "a0 b2"), false)
}

func TestFitsOfMany(t *testing.T) {
	n := and(terms(12, "A")...)
	var m api.Partial
	for i, e := range many("A", 12, 0) {
		m.Bounds = append(m.Bounds, bound(letters(12)[i], e))
	}
	// there are far more than MaxFound over these events, but one alone is asked for
	wantNodeErr(t, n, many("A", 12, 0), api.ErrFull)
	wantFits(t, n, m, true)
	wantIs(t, api.Pattern{Name: "p", Window: 11, Root: n}, m, true)
	wantIs(t, api.Pattern{Name: "p", Window: 10, Root: n}, m, false)
	wantFits(t, seq(terms(12, "A")...), m, true)
	for i := range m.Bounds {
		wantFits(t, n, partial(slices.Delete(slices.Clone(m.Bounds), i, i+1)...), false)
		other := slices.Clone(m.Bounds)
		other[i].Event.Type = "B"
		wantFits(t, n, partial(other...), false)
	}
	late := slices.Clone(m.Bounds)
	late[3].Event.Time = late[4].Event.Time
	wantFits(t, seq(terms(12, "A")...), partial(late...), false)
	wantFits(t, n, partial(late...), true)
}

// What Shape, Binds or match.Check refuse does not fit.
func TestFitsOfRefused(t *testing.T) {
	l := events(t, "A1 B3 C5")
	m := partialOf(t, l, "a0 b1")
	n := tree(t, "A as a ; B as b")
	wantFits(t, n, m, true)
	deep := n
	for range 8 {
		deep = or(deep, term("A", "a"))
	}
	for _, n := range []api.Node{{}, deep, or(n, api.Node{}), or(n, term("A", "")), or(n, term("A", "a", is("a", 1))), or(n, seq(n, n)), or(n, and(n, n)), or(n), or(n, n, or()), and(append(terms(12, "A"), n)...)} {
		wantFits(t, n, m, false)
		wantIs(t, api.Pattern{Name: "p", Window: 10, Root: n}, m, false)
	}
	wantFits(t, or(n, n), m, true)
	wantFits(t, api.Node{}, api.Partial{}, false)
	for _, change := range []func(m *api.Partial){
		func(m *api.Partial) { slices.Reverse(m.Bounds) },
		func(m *api.Partial) { m.Bounds = append(m.Bounds, m.Bounds[1]) },
		func(m *api.Partial) { m.Bounds = append(m.Bounds, bound("", l[2])) },
		func(m *api.Partial) { m.Bounds[0].Event.ID = m.Bounds[1].Event.ID },
		func(m *api.Partial) { m.Bounds[0].Event.Time = -1 },
		func(m *api.Partial) { m.Bounds[1].Event.Time = api.MaxTime + 1 },
		func(m *api.Partial) { m.Bounds[1].Event.Attrs = make([]api.Attr, 1) },
		func(m *api.Partial) { m.Bounds[1].Event.ID.Source = api.MaxSources },
		func(m *api.Partial) { m.Bounds = append(m.Bounds, make([]api.Bound, 11)...) },
	} {
		m := match.Clone(m)
		change(&m)
		wantFits(t, n, m, false)
		wantIs(t, api.Pattern{Name: "p", Window: 10, Root: n}, m, false)
	}
}

// somePartial binds some of these variables, or others, to some events: to each of them once, or more often.
func somePartial(r *rand.Rand, vars []string, l []api.Event) api.Partial {
	var p api.Partial
	for _, name := range append(slices.Clone(vars), "z") {
		if len(l) > 0 && r.IntN(5) > 0 && (name != "z" || r.IntN(8) == 0) {
			p.Bounds = append(p.Bounds, bound(name, pick(r, l...)))
		}
	}
	if r.IntN(20) == 0 {
		r.Shuffle(len(p.Bounds), func(i, j int) { p.Bounds[i], p.Bounds[j] = p.Bounds[j], p.Bounds[i] })
	}
	return p
}

// near is a partial match that is one of some, or nearly so.
func near(r *rand.Rand, some []api.Partial, l []api.Event) api.Partial {
	p := match.Clone(pick(r, some...))
	i := r.IntN(len(p.Bounds))
	switch r.IntN(5) {
	case 0:
		p.Bounds[i].Event.Time = int64(r.IntN(8))
	case 1:
		p.Bounds[i].Event = pick(r, l...)
	case 2:
		p.Bounds = slices.Delete(p.Bounds, i, i+1)
	case 3:
		p.Bounds[i].Var = pick(r, letters(6)...)
	}
	return p
}

// By chance against the chapter's first words: what fits is a partial over the events that it binds.
func TestFitsByChance(t *testing.T) {
	r, fits, is := dice(), counted[bool]{}, counted[bool]{}
	for range 3000 {
		p, l := somePattern(r, 1+r.IntN(7)), someEvents(r, 7)
		some, err := den.Node(p.Root, l...)
		if err != api.OK {
			t.Fatalf("error %d", err)
		}
		for range 10 {
			m := somePartial(r, check.Vars(p.Root), l)
			if len(some) > 0 && r.IntN(2) == 0 {
				m = near(r, some, l)
			}
			want := modelFits(p.Root, m)
			fits[want]++
			if den.Fits(p.Root, m) != want {
				t.Fatalf("Fits of %s and %s over%s: %v", shownNode(p.Root), shown(m), shownEvents(l), !want)
			}
			want = modelIs(p, m)
			is[want]++
			if den.Is(p, m) != want {
				t.Fatalf("Is of %s within %d, %d conditions, and %s over%s: %v", shownNode(p.Root), p.Window, len(p.Where), shown(m), shownEvents(l), !want)
			}
		}
	}
	fits.many(t, "Fits", 3000, true, false)
	is.many(t, "Is", 1000, true, false)
}

func TestIs(t *testing.T) {
	l := events(t, "A1:1 B3:1 B9:2 B4:2")
	p := pattern(t, "pattern p within 5 : A as a ; B as b where a.x = b.x")
	wantIs(t, p, partialOf(t, l, "a0 b1"), true)
	for _, text := range []string{"", "a0", "b1", "a0 b2", "a0 b3", "a0 b1 c2", "a1 b0"} {
		wantIs(t, p, partialOf(t, l, text), false)
	}
	m := partialOf(t, l, "a0 b1")
	p.Window = 2
	wantIs(t, p, m, true)
	p.Window = 1
	wantIs(t, p, m, false)
	p.Window = 0
	wantIs(t, p, m, false)
	// Pattern refuses it, although all else is well
	p.Window = 5
	for _, name := range []string{"", "1", strings.Repeat("p", 33)} {
		p.Name = name
		wantIs(t, p, m, false)
	}
	p.Name = "p"
	p.Where = append(p.Where, is("c", 1))
	wantIs(t, p, m, false)
	p.Where[1] = is("b", 1)
	wantIs(t, p, m, true)
	p.Where[1] = is("b", 2)
	wantIs(t, p, m, false)
	wantIs(t, api.Pattern{}, api.Partial{}, false)
	// of a variable that is not bound each condition holds
	p = pattern(t, "pattern p within 5 : A as a | B as b where a.x = 2")
	wantIs(t, p, partialOf(t, l, "b1"), true)
	wantIs(t, p, partialOf(t, l, "a0"), false)
}
