package den_test

import (
	"math/rand/v2"
	"slices"
	"strconv"
	"strings"
	"testing"

	"eyrie/api"
	"eyrie/check"
	"eyrie/den"
	"eyrie/match"
	"eyrie/syntax"
)

// dice are the same at each run.
func dice() *rand.Rand { return rand.New(rand.NewPCG(110, 111)) }

func pick[T any](r *rand.Rand, l ...T) T { return l[r.IntN(len(l))] }

// Trees and patterns.

// tree is the tree of a text.
func tree(t testing.TB, text string) api.Node {
	t.Helper()
	n, at, err := syntax.Expr(text)
	if err != api.OK {
		t.Fatalf("%q: error %d at %d", text, err, at)
	}
	return n
}

// pattern is the pattern of a text, such as "pattern p within 5 : A as a ; B as b".
func pattern(t testing.TB, text string) api.Pattern {
	t.Helper()
	p, at, err := syntax.Parse(text)
	if err != api.OK {
		t.Fatalf("%q: error %d at %d", text, err, at)
	}
	if err := check.Pattern(p); err != api.OK {
		t.Fatalf("%q: error %d", text, err)
	}
	return p
}

func term(kind, name string, tests ...api.Cond) api.Node {
	return api.Node{Kind: api.NdTerm, Type: kind, Var: name, Tests: tests}
}

func node(kind int, kids ...api.Node) api.Node { return api.Node{Kind: kind, Kids: kids} }

func seq(kids ...api.Node) api.Node { return node(api.NdSeq, kids...) }

func and(kids ...api.Node) api.Node { return node(api.NdAnd, kids...) }

func or(kids ...api.Node) api.Node { return node(api.NdOr, kids...) }

// letters are the first n variables a, b, ..
func letters(n int) []string {
	l := make([]string, n)
	for i := range l {
		l[i] = string(rune('a' + i))
	}
	return l
}

// terms are n terms of these types by turns, with variables of their own.
func terms(n int, types ...string) []api.Node {
	var l []api.Node
	for i, name := range letters(n) {
		l = append(l, term(types[i%len(types)], name))
	}
	return l
}

func num(n int64) api.Value { return api.Value{Kind: api.VInt, N: n} }

func str(s string) api.Value { return api.Value{Kind: api.VStr, S: s} }

func attr(name string, v api.Value) api.Attr { return api.Attr{Name: name, Value: v} }

// is is a condition on the attribute x.
func is(name string, n int64) api.Cond {
	return api.Cond{Left: api.Operand{Var: name, Attr: "x"}, Rel: api.RelEq, Right: api.Operand{Value: num(n)}}
}

// Events and partial matches.

// ev is the seq-th event of a type, at a time.
func ev(seq int, kind string, time int64, attrs ...api.Attr) api.Event {
	return api.Event{ID: api.ID{Source: seq % 3, Seq: int64(seq)}, Time: time, Type: kind, Attrs: attrs}
}

// events are those of a text, such as "A1 B3 B3:7": types of one letter and times, and the attribute x, if there is one. The first one has the Seq 0, the next one 1, ..
func events(t testing.TB, text string) []api.Event {
	t.Helper()
	var l []api.Event
	for i, word := range strings.Fields(text) {
		time, x, with := strings.Cut(word[1:], ":")
		e := ev(i, word[:1], number(t, time))
		if with {
			e.Attrs = append(e.Attrs, attr("x", num(number(t, x))))
		}
		l = append(l, e)
	}
	return l
}

func number(t testing.TB, text string) int64 {
	t.Helper()
	n, err := strconv.ParseInt(text, 10, 64)
	if err != nil {
		t.Fatal(err)
	}
	return n
}

// many are n events of a type, all at another time: from, from + 1, .. Their Seqs begin at from, too.
func many(kind string, n, from int) []api.Event {
	var l []api.Event
	for i := range n {
		l = append(l, ev(from+i, kind, int64(from+i)))
	}
	return l
}

// at are events, at one time.
func at(time int64, l []api.Event) []api.Event {
	l = slices.Clone(l)
	for i := range l {
		l[i].Time = time
	}
	return l
}

func bound(name string, e api.Event) api.Bound { return api.Bound{Var: name, Event: e} }

func partial(l ...api.Bound) api.Partial { return api.Partial{Bounds: l} }

// partialOf is the partial match of a text, such as "a0 b2": of these variables those of the events that have this place.
func partialOf(t testing.TB, l []api.Event, text string) api.Partial {
	t.Helper()
	var p api.Partial
	for _, word := range strings.Fields(text) {
		p.Bounds = append(p.Bounds, bound(word[:1], l[number(t, word[1:])]))
	}
	return p
}

// What is the same, written out.

func alikeEvents(a, b api.Event) bool {
	return a.ID == b.ID && a.Time == b.Time && a.Type == b.Type && slices.Equal(a.Attrs, b.Attrs)
}

func alikeBounds(a, b api.Bound) bool { return a.Var == b.Var && alikeEvents(a.Event, b.Event) }

func alike(a, b api.Partial) bool { return slices.EqualFunc(a.Bounds, b.Bounds, alikeBounds) }

// shown is a partial match by its variables and its events' Seqs, such as "a0 b2".
func shown(p api.Partial) string {
	var l []string
	for _, b := range p.Bounds {
		l = append(l, b.Var+strconv.FormatInt(b.Event.ID.Seq, 10))
	}
	return strings.Join(l, " ")
}

// shownAll are partial matches, sorted as texts.
func shownAll(l []api.Partial) string {
	var all []string
	for _, p := range l {
		all = append(all, shown(p))
	}
	slices.Sort(all)
	return strings.Join(all, ", ")
}

func shownNode(n api.Node) string {
	s := [...]string{"(", " ; ", " & ", " | "}[max(0, min(n.Kind, 4)-1)]
	if n.Kind == api.NdTerm {
		return n.Type + " as " + n.Var + [...]string{"", "[..]"}[min(1, len(n.Tests))]
	}
	var l []string
	for _, k := range n.Kids {
		l = append(l, shownNode(k))
	}
	return "(" + strings.Join(l, s) + ")"
}

func shownEvents(l []api.Event) string {
	s := ""
	for _, e := range l {
		s += " " + strconv.FormatInt(e.ID.Seq, 10) + "=" + e.Type + strconv.FormatInt(e.Time, 10)
		for _, a := range e.Attrs {
			s += ":" + a.Name + strconv.FormatInt(a.Value.N, 10) + a.Value.S
		}
	}
	return s
}

// What is asked.

// wantRising asks that partial matches rise by match.Compare, and that their events are those that were handed in.
func wantRising(t *testing.T, got []api.Partial, l []api.Event) {
	t.Helper()
	for i, p := range got {
		if i > 0 && match.Compare(got[i-1], p) >= 0 {
			t.Errorf("%s stands ahead of %s", shown(got[i-1]), shown(p))
		}
		for _, b := range p.Bounds {
			if !slices.ContainsFunc(l, func(e api.Event) bool { return alikeEvents(e, b.Event) }) {
				t.Errorf("%s: %+v is none of the events", shown(p), b.Event)
			}
		}
	}
}

// wantNode asks for just these partials, as texts, in any order.
func wantNode(t *testing.T, n api.Node, l []api.Event, want ...string) {
	t.Helper()
	got, err := den.Node(n, l...)
	if slices.Sort(want); err != api.OK || shownAll(got) != strings.Join(want, ", ") {
		t.Errorf("Node of %s over%s: %s and error %d, not %s", shownNode(n), shownEvents(l), shownAll(got), err, strings.Join(want, ", "))
	}
	wantRising(t, got, l)
}

func wantNodeErr(t *testing.T, n api.Node, l []api.Event, want api.Errno) {
	t.Helper()
	got, err := den.Node(n, l...)
	if err != want || err != api.OK && got != nil {
		t.Errorf("Node of %.500s over%.500s: %d partials and error %d, not %d", shownNode(n), shownEvents(l), len(got), err, want)
	}
}

// wantMany asks for so many partials.
func wantMany(t *testing.T, n api.Node, l []api.Event, want int) {
	t.Helper()
	got, err := den.Node(n, l...)
	if err != api.OK || len(got) != want {
		t.Errorf("Node of %.500s over%.500s: %d partials and error %d, not %d", shownNode(n), shownEvents(l), len(got), err, want)
	}
	wantRising(t, got, l)
}

// listed are what Walk tells.
func listed(p api.Pattern, l []api.Event) []api.Partial {
	var got []api.Partial
	for m := range den.Walk(p, l...) {
		got = append(got, m)
	}
	return got
}

// wantAll asks for just these matches, as texts, in any order; by Walk and Many, too.
func wantAll(t *testing.T, p api.Pattern, l []api.Event, want ...string) {
	t.Helper()
	got, err := den.All(p, l...)
	if slices.Sort(want); err != api.OK || shownAll(got) != strings.Join(want, ", ") {
		t.Errorf("All of %s over%s: %s and error %d, not %s", shownNode(p.Root), shownEvents(l), shownAll(got), err, strings.Join(want, ", "))
	}
	wantRising(t, got, l)
	if walked := listed(p, l); !slices.EqualFunc(walked, got, alike) {
		t.Errorf("Walk of %s over%s: %s, not %s", shownNode(p.Root), shownEvents(l), shownAll(walked), shownAll(got))
	}
	if n := den.Many(p, l...); n != len(got) {
		t.Errorf("Many of %s over%s: %d, not %d", shownNode(p.Root), shownEvents(l), n, len(got))
	}
	for _, m := range got {
		wantIs(t, p, m, true)
	}
}

func wantAllErr(t *testing.T, p api.Pattern, l []api.Event, want api.Errno) {
	t.Helper()
	got, err := den.All(p, l...)
	if err != want || got != nil {
		t.Errorf("All of %.500s over%.500s: %d matches and error %d, not %d", shownNode(p.Root), shownEvents(l), len(got), err, want)
	}
	if walked := listed(p, l); walked != nil {
		t.Errorf("Walk of %.500s over%.500s: %d matches", shownNode(p.Root), shownEvents(l), len(walked))
	}
	if n := den.Many(p, l...); n != 0 {
		t.Errorf("Many of %.500s over%.500s: %d", shownNode(p.Root), shownEvents(l), n)
	}
}

func wantIs(t *testing.T, p api.Pattern, m api.Partial, want bool) {
	t.Helper()
	if den.Is(p, m) != want {
		t.Errorf("Is of %.500s and %.500s: %v", shownNode(p.Root), shown(m), !want)
	}
}

func wantFits(t *testing.T, n api.Node, m api.Partial, want bool) {
	t.Helper()
	if den.Fits(n, m) != want {
		t.Errorf("Fits of %.500s and %.500s: %v", shownNode(n), shown(m), !want)
	}
}

func wantWithin(t *testing.T, window int64, m api.Partial, want bool) {
	t.Helper()
	if den.Within(api.Pattern{Window: window}, m) != want {
		t.Errorf("Within %d of %s: %v", window, shown(m), !want)
	}
}

// By chance: few types, times and values, so that many are alike.

func someEvent(r *rand.Rand, seq int) api.Event {
	e := ev(seq, pick(r, "A", "A", "B", "C"), int64(r.IntN(8)))
	e.ID.Source = r.IntN(4)
	for _, name := range []string{"x", "y"} {
		if r.IntN(2) == 0 {
			e.Attrs = append(e.Attrs, attr(name, pick(r, num(1), num(2), num(3), str("s"))))
		}
	}
	return e
}

// someEvents are up to most events, in no order of their times, sources or Seqs.
func someEvents(r *rand.Rand, most int) []api.Event {
	var l []api.Event
	for i := range r.IntN(most + 1) {
		l = append(l, someEvent(r, i))
	}
	r.Shuffle(len(l), func(i, j int) { l[i], l[j] = l[j], l[i] })
	return l
}

func someSide(r *rand.Rand, vars ...string) api.Operand {
	return api.Operand{Var: pick(r, vars...), Attr: pick(r, "x", "y")}
}

// someCond is a condition that may be, mostly one that holds often.
func someCond(r *rand.Rand, vars ...string) api.Cond {
	c := api.Cond{Left: someSide(r, vars...), Rel: 1 + r.IntN(6), Right: someSide(r, vars...)}
	if r.IntN(2) == 0 {
		c.Right = api.Operand{Value: pick(r, num(1), num(2), num(3), str("s"))}
	}
	return c
}

// someTree is a tree of up to most terms, with these variables: each kid has some of its own, but of an NdOr.
func someTree(r *rand.Rand, most int, vars []string) api.Node {
	if most < 2 || len(vars) < 2 || r.IntN(8) == 0 {
		n := term(pick(r, "A", "A", "B", "C"), pick(r, vars...))
		if r.IntN(5) == 0 {
			n.Tests = append(n.Tests, someCond(r, ""))
		}
		return n
	}
	n := node(pick(r, api.NdSeq, api.NdAnd, api.NdOr))
	kids := 2 + r.IntN(2)
	for i := range kids {
		own := vars
		if n.Kind != api.NdOr {
			own = nil
			for j := i; j < len(vars); j += kids {
				own = append(own, vars[j])
			}
		}
		if len(own) > 0 {
			n.Kids = append(n.Kids, someTree(r, most/kids, own))
		}
	}
	if len(n.Kids) < 2 {
		return n.Kids[0]
	}
	return n
}

// somePattern may be.
func somePattern(r *rand.Rand, terms int) api.Pattern {
	p := api.Pattern{Name: "p", Window: int64(1 + r.IntN(10)), Root: someTree(r, terms, letters(5))}
	for range r.IntN(3) {
		p.Where = append(p.Where, someCond(r, check.Vars(p.Root)...))
	}
	return p
}

// counted counts how often each answer comes, so that none is left out.
type counted[T comparable] map[T]int

func (n counted[T]) many(t *testing.T, what string, least int, of ...T) {
	t.Helper()
	for _, x := range of {
		if n[x] < least {
			t.Errorf("%s: %v came only %d times: %v", what, x, n[x], n)
		}
	}
}
