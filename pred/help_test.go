package pred_test

import (
	"math/rand/v2"
	"slices"
	"strconv"
	"testing"

	"eyrie/api"
	"eyrie/pred"
	"eyrie/syntax"
)

// dice are the same at each run.
func dice() *rand.Rand { return rand.New(rand.NewPCG(90, 91)) }

// Values, operands and conditions.

func num(n int64) api.Value { return api.Value{Kind: api.VInt, N: n} }

func str(s string) api.Value { return api.Value{Kind: api.VStr, S: s} }

func constant(v api.Value) api.Operand { return api.Operand{Value: v} }

func attr(name, attr string) api.Operand { return api.Operand{Var: name, Attr: attr} }

func cond(left api.Operand, rel int, right api.Operand) api.Cond {
	return api.Cond{Left: left, Rel: rel, Right: right}
}

// conds are the conditions of a text.
func conds(t testing.TB, text string) []api.Cond {
	t.Helper()
	l, at, err := syntax.Conds(text)
	if err != api.OK {
		t.Fatalf("%q: error %d at %d", text, err, at)
	}
	return l
}

// one is the condition of a text.
func one(t testing.TB, text string) api.Cond {
	t.Helper()
	l := conds(t, text)
	if len(l) != 1 {
		t.Fatalf("%q: %d conditions", text, len(l))
	}
	return l[0]
}

// rels are relations, and numbers around and far from them that are none.
func rels() []int {
	return []int{-1 << 63, -6, -1, 0, api.RelEq, api.RelNe, api.RelLt, api.RelLe, api.RelGt, api.RelGe, 7, 8, 256 + 1, 1<<32 + 2, 1<<63 - 1}
}

// values are values of all sorts, some of which may not be; and the one that there is not.
func values() []api.Value {
	return []api.Value{{}, num(-1 << 63), num(-3), num(0), num(1), num(2), num(1<<63 - 1), str(""), str("1"), str("a"), str("a\x00"), str("b"),
		{Kind: api.VInt, N: 1, S: "a"}, {Kind: api.VStr, N: 1, S: "a"}, {Kind: api.VNone, N: 1, S: "a"}, {Kind: 3, N: 1, S: "a"}, {Kind: -1}}
}

// Events, partial matches and terms.

// event is an event of type T with these attributes.
func event(l ...api.Attr) api.Event {
	return api.Event{ID: api.ID{Source: 1, Seq: 2}, Time: 3, Type: "T", Attrs: l}
}

func named(name string, v api.Value) api.Attr { return api.Attr{Name: name, Value: v} }

// with is an event with one attribute, x.
func with(v api.Value) api.Event { return event(named("x", v)) }

func bound(name string, e api.Event) api.Bound { return api.Bound{Var: name, Event: e} }

func partial(l ...api.Bound) api.Partial { return api.Partial{Bounds: l} }

// term is a term that takes event's events, if its tests do.
func term(tests ...api.Cond) api.Node {
	return api.Node{Kind: api.NdTerm, Type: "T", Var: "a", Tests: tests}
}

// numbered are some names, each another one; they rise.
func numbered(n int) []string {
	var l []string
	for i := range n {
		l = append(l, "v"+strconv.Itoa(i + 10000000)[1:])
	}
	return l
}

// What is asked.

func wantTest(t *testing.T, c api.Cond, e api.Event, want bool) {
	t.Helper()
	if got := pred.Test(c, e); got != want {
		t.Errorf("Test of %.300s: %v; %+v", shown(c), got, e)
	}
	if got := pred.Term(term(c), e); got != want {
		t.Errorf("Term with %.300s: %v; %+v", shown(c), got, e)
	}
	if got := pred.Term(term(slices.Repeat([]api.Cond{c}, 20)...), e); got != want {
		t.Errorf("Term with twenty times %.300s: %v; %+v", shown(c), got, e)
	}
}

func wantTerm(t *testing.T, n api.Node, e api.Event, want bool) {
	t.Helper()
	if got := pred.Term(n, e); got != want {
		t.Errorf("Term of %+v: %v; %+v", n, got, e)
	}
}

func wantValue(t *testing.T, o api.Operand, p api.Partial, want api.Value, is bool) {
	t.Helper()
	if got, ok := pred.Value(o, p); got != want || ok != is {
		t.Errorf("Value of %+v: %+v %v, not %+v %v; %+v", o, got, ok, want, is, p)
	}
}

func wantNames(t *testing.T, c api.Cond, want ...string) {
	t.Helper()
	got := pred.Names(c)
	if !slices.Equal(got, want) || len(want) == 0 && got != nil {
		t.Errorf("Names of %s: %#v, not %#v", shown(c), got, want)
	}
}

func wantReady(t *testing.T, c api.Cond, want bool, vars ...string) {
	t.Helper()
	if got := pred.Ready(c, vars...); got != want {
		t.Errorf("Ready of %s with %q: %v", shown(c), vars, got)
	}
}

func wantCond(t *testing.T, c api.Cond, p api.Partial, want bool) {
	t.Helper()
	if got := pred.Cond(c, p); got != want {
		t.Errorf("Cond of %.300s: %v; %+v", shown(c), got, p)
	}
	wantAll(t, []api.Cond{c}, p, want)
	wantAll(t, slices.Repeat([]api.Cond{c}, 20), p, want)
}

func wantAll(t *testing.T, l []api.Cond, p api.Partial, want bool) {
	t.Helper()
	if got := pred.All(l, p); got != want {
		t.Errorf("All of %d, %.300s: %v; %+v", len(l), shown(l...), got, p)
	}
}

func wantSplit(t *testing.T, l []api.Cond, vars []string, first, second []api.Cond) {
	t.Helper()
	yes, no := pred.Split(l, vars...)
	if !slices.Equal(yes, first) || !slices.Equal(no, second) || len(first) == 0 && yes != nil || len(second) == 0 && no != nil {
		t.Errorf("Split of %.500s with %.100q: %.500s and %.500s", shown(l...), vars, shown(yes...), shown(no...))
	}
}

// shown are conditions as text.
func shown(l ...api.Cond) string {
	s := ""
	for i, c := range l {
		if i > 0 {
			s += ", "
		}
		s += shownSide(c.Left) + " " + strconv.Itoa(c.Rel) + " " + shownSide(c.Right)
	}
	return s
}

func shownSide(o api.Operand) string {
	v := "(" + strconv.Itoa(o.Value.Kind) + " " + strconv.FormatInt(o.Value.N, 10) + " " + strconv.Quote(o.Value.S) + ")"
	if o == constant(o.Value) {
		return v
	}
	return strconv.Quote(o.Var) + "." + strconv.Quote(o.Attr) + v
}

// By chance: few names and values, so that many are alike.

func pick[T any](r *rand.Rand, l ...T) T { return l[r.IntN(len(l))] }

func someName(r *rand.Rand) string { return pick(r, "", "a", "b", "c", "ab") }

func someNames(r *rand.Rand) []string {
	var l []string
	for range r.IntN(5) {
		l = append(l, someName(r))
	}
	return l
}

func someValue(r *rand.Rand) api.Value {
	if r.IntN(4) == 0 {
		return pick(r, values()...)
	}
	return pick(r, num(1), num(2), str("a"), str("b"))
}

func someSide(r *rand.Rand) api.Operand {
	switch r.IntN(6) {
	case 0:
		return constant(someValue(r))
	case 1:
		return api.Operand{Var: someName(r), Attr: pick(r, "", "x"), Value: someValue(r)}
	}
	return attr(someName(r), pick(r, "x", "y", "z"))
}

func someCond(r *rand.Rand) api.Cond {
	rel := 1 + r.IntN(6)
	if r.IntN(20) == 0 {
		rel = pick(r, rels()...)
	}
	return cond(someSide(r), rel, someSide(r))
}

func someConds(r *rand.Rand, n int) []api.Cond {
	var l []api.Cond
	for range n {
		l = append(l, someCond(r))
	}
	return l
}

// someEvent has its attributes in any order, and some of them twice.
func someEvent(r *rand.Rand) api.Event {
	e := api.Event{ID: api.ID{Source: r.IntN(3), Seq: int64(r.IntN(3))}, Time: int64(r.IntN(9)), Type: pick(r, "T", "U")}
	for range r.IntN(5) {
		e.Attrs = append(e.Attrs, named(pick(r, "x", "y", "z", ""), someValue(r)))
	}
	return e
}

// somePartial has its variables in any order, and some of them twice.
func somePartial(r *rand.Rand) api.Partial {
	var p api.Partial
	for range r.IntN(6) {
		p.Bounds = append(p.Bounds, bound(someName(r), someEvent(r)))
	}
	return p
}

// mostly are up to n conditions that hold, as holds tells; by every other throw there is one among them that does not.
func mostly(r *rand.Rand, n int, holds func(api.Cond) bool) []api.Cond {
	fails := func(c api.Cond) bool { return !holds(c) }
	l := slices.DeleteFunc(someConds(r, 3*n), fails)
	l = l[:min(n, len(l))]
	some := someConds(r, 50)
	if at := slices.IndexFunc(some, fails); at >= 0 && r.IntN(2) == 0 {
		l = slices.Insert(l, r.IntN(len(l)+1), some[at])
	}
	return l
}
