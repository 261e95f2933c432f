package pred_test

import (
	"slices"
	"strings"
	"testing"

	"eyrie/api"
	"eyrie/pred"
)

// P9.1

func TestExamples(t *testing.T) {
	three := func(rel int) api.Cond { return cond(attr("", "x"), rel, constant(num(3))) }
	wantTest(t, three(api.RelGt), with(num(5)), true)
	wantTest(t, three(api.RelGt), event(), false)
	wantTest(t, three(api.RelNe), event(), false)
	wantCond(t, cond(attr("a", "x"), api.RelLt, attr("b", "x")), partial(bound("a", with(num(1)))), true)
	// and as texts
	wantTest(t, one(t, "x > 3"), with(num(5)), true)
	wantTest(t, one(t, "x > 3"), event(named("y", num(5))), false)
	wantTest(t, one(t, "x != 3"), event(named("y", num(5))), false)
	wantCond(t, one(t, "a.x < b.x"), partial(bound("a", with(num(1)))), true)
}

// Each relation of x with 2, and of 2 with x.
func TestRelations(t *testing.T) {
	for rel, want := range map[int][3]bool{
		api.RelEq: {false, true, false}, api.RelNe: {true, false, true}, api.RelLt: {true, false, false},
		api.RelLe: {true, true, false}, api.RelGt: {false, false, true}, api.RelGe: {false, true, true},
	} {
		for i, v := range []api.Value{num(-7), num(2), num(30)} {
			wantTest(t, cond(attr("", "x"), rel, constant(num(2))), with(v), want[i])
			wantTest(t, cond(constant(v), rel, attr("", "x")), with(num(2)), want[i])
			wantTest(t, cond(attr("", "x"), rel, attr("", "y")), event(named("x", v), named("y", num(2))), want[i])
			wantTest(t, cond(constant(v), rel, constant(num(2))), event(), want[i])
		}
		for i, v := range []api.Value{str("abz"), str("ac"), str("b")} {
			wantTest(t, cond(attr("", "x"), rel, constant(str("ac"))), with(v), want[i])
			wantTest(t, cond(constant(v), rel, attr("", "x")), with(str("ac")), want[i])
			wantTest(t, cond(attr("", "x"), rel, attr("", "y")), event(named("x", v), named("y", str("ac"))), want[i])
			wantTest(t, cond(constant(v), rel, constant(str("ac"))), event(), want[i])
		}
	}
}

// All relations, those that are none, too, of all values, on all sides.
func TestRelationsOfAllValues(t *testing.T) {
	for _, rel := range rels() {
		for _, a := range values() {
			for _, b := range values() {
				want := modelHolds(rel, a, b)
				e := event(named("x", a), named("y", b))
				wantTest(t, cond(constant(a), rel, constant(b)), e, want)
				wantTest(t, cond(attr("", "x"), rel, constant(b)), e, want)
				wantTest(t, cond(constant(a), rel, attr("", "y")), e, want)
				wantTest(t, cond(attr("", "x"), rel, attr("", "y")), e, want)
				wantTest(t, cond(attr("", "y"), rel, attr("", "x")), event(named("y", a), named("x", b)), want)
			}
		}
	}
}

func TestIntsAgainstStrings(t *testing.T) {
	for _, rel := range rels() {
		ne := rel == api.RelNe
		wantTest(t, cond(attr("", "x"), rel, constant(str("1"))), with(num(1)), ne)
		wantTest(t, cond(attr("", "x"), rel, constant(num(1))), with(str("1")), ne)
		wantTest(t, cond(attr("", "x"), rel, attr("", "y")), event(named("x", str("1")), named("y", num(1))), ne)
		// what fields of another Kind say counts for nothing
		wantTest(t, cond(attr("", "x"), rel, constant(num(1))), with(api.Value{Kind: api.VInt, N: 1, S: "a"}), modelHolds(rel, num(1), num(1)))
	}
}

// Of an attribute that there is not nothing holds, but what has no attribute.
func TestNoSuchAttribute(t *testing.T) {
	for _, e := range []api.Event{event(), event(named("y", num(5))), event(named("", num(5)), named("X", num(5)), named("xx", num(5))), with(api.Value{})} {
		for _, rel := range rels() {
			for _, v := range values() {
				wantTest(t, cond(attr("", "x"), rel, constant(v)), e, false)
				wantTest(t, cond(constant(v), rel, attr("", "x")), e, false)
			}
			wantTest(t, cond(attr("", "x"), rel, attr("", "x")), e, false)
			wantTest(t, cond(attr("", "x"), rel, attr("", "z")), e, false)
		}
		wantTest(t, cond(constant(num(1)), api.RelEq, constant(num(1))), e, true)
	}
}

// Of two attributes of one name the first one counts, whatever their order.
func TestFirstAttributeCounts(t *testing.T) {
	e := event(named("z", num(0)), named("x", num(1)), named("a", num(3)), named("x", num(2)), named("x", str("1")))
	wantTest(t, cond(attr("", "x"), api.RelEq, constant(num(1))), e, true)
	wantTest(t, cond(attr("", "x"), api.RelEq, constant(num(2))), e, false)
	wantTest(t, cond(attr("", "x"), api.RelLt, attr("", "a")), e, true)
	e.Attrs = append([]api.Attr{named("x", api.Value{})}, e.Attrs...)
	wantTest(t, cond(attr("", "x"), api.RelEq, constant(num(1))), e, false)
}

func TestVariablesCountForNothing(t *testing.T) {
	e := event(named("x", num(1)), named("y", num(2)))
	for _, left := range []string{"", "a", "b", "x", "no name"} {
		for _, right := range []string{"", "a", "b", "y", "\x00"} {
			wantTest(t, cond(attr(left, "x"), api.RelLt, attr(right, "y")), e, true)
			wantTest(t, cond(attr(left, "x"), api.RelGt, attr(right, "y")), e, false)
			wantTest(t, cond(attr(left, "x"), api.RelEq, api.Operand{Var: right, Value: num(1)}), e, true)
			wantTest(t, cond(api.Operand{Var: left, Value: num(1)}, api.RelEq, attr(right, "x")), e, true)
			wantTest(t, cond(attr(left, "z"), api.RelNe, attr(right, "y")), e, false)
		}
	}
}

// The Value of an operand with an attribute counts for nothing.
func TestValuesOfAttributesCountForNothing(t *testing.T) {
	o := api.Operand{Attr: "x", Value: num(7)}
	wantTest(t, cond(o, api.RelEq, constant(num(1))), with(num(1)), true)
	wantTest(t, cond(o, api.RelEq, constant(num(7))), with(num(1)), false)
	wantTest(t, cond(constant(num(7)), api.RelEq, o), event(), false)
}

// An attribute's name is held against others byte by byte.
func TestAttributesOfAnyName(t *testing.T) {
	names := []string{"x", "X", "xx", "x\x00", " x", "\xff", strings.Repeat("x", 100)}
	var e api.Event
	for i, s := range names {
		e.Attrs = append(e.Attrs, named(s, num(int64(i))))
	}
	for i, s := range names {
		if !pred.Test(cond(attr("", s), api.RelEq, constant(num(int64(i)))), e) {
			t.Errorf("%q: another value", s)
		}
	}
}

func TestTermOfEachKind(t *testing.T) {
	for _, kind := range []int{api.NdTerm, api.NdSeq, api.NdAnd, api.NdOr, 0, -1, 5, 1<<32 + 1, -1 << 63, 1<<63 - 1} {
		n := term()
		n.Kind = kind
		wantTerm(t, n, event(), kind == api.NdTerm)
		n.Tests = conds(t, "x = 1")
		wantTerm(t, n, with(num(1)), kind == api.NdTerm)
		wantTerm(t, n, with(num(2)), false)
	}
}

func TestTermOfTypes(t *testing.T) {
	types := []string{"", "T", "t", "TT", "T ", "U", "\x00", "T\x00"}
	for _, a := range types {
		for _, b := range types {
			n, e := term(), event()
			n.Type, e.Type = a, b
			wantTerm(t, n, e, a == b)
			n.Tests = conds(t, "1 = 1")
			wantTerm(t, n, e, a == b)
		}
	}
	wantTerm(t, api.Node{}, api.Event{}, false)
	wantTerm(t, api.Node{Kind: api.NdTerm}, api.Event{}, true)
}

// What else a node and an event have counts for nothing.
func TestTermOfAnythingElse(t *testing.T) {
	for _, name := range []string{"", "a", "T", "no name"} {
		for _, kids := range [][]api.Node{nil, {}, {{}}, {term(conds(t, "x = 2")...), {Kind: api.NdOr}}} {
			for _, id := range []api.ID{{}, {Source: -1, Seq: -1}, {Source: 99, Seq: 1 << 62}} {
				n, e := term(conds(t, "x = 1")...), with(num(1))
				n.Var, n.Kids, e.ID, e.Time = name, kids, id, -5
				wantTerm(t, n, e, true)
				e.Attrs[0].Value.N = 2
				wantTerm(t, n, e, false)
			}
		}
	}
}

// One test that fails, at each place of lists of each length.
func TestTermFailsAtEachPlace(t *testing.T) {
	good, bad := one(t, "x > 3"), one(t, "y = \"b\"")
	e := event(named("x", num(5)), named("y", str("a")))
	for n := range 40 {
		l := slices.Repeat([]api.Cond{good}, n)
		wantTerm(t, term(l...), e, true)
		for i := range l {
			l[i] = bad
			wantTerm(t, term(l...), e, false)
			l[i] = good
		}
	}
}

// With many tests, too, the variables of a term's own count for nothing.
func TestTermOfManyTests(t *testing.T) {
	e := event(named("x", num(5)), named("y", str("a")), named("x", num(7)), named("z", str("a")))
	for _, x := range []struct {
		c    api.Cond
		want bool
	}{
		{cond(attr("a", "x"), api.RelEq, constant(num(5))), true},
		{cond(attr("a", "x"), api.RelEq, constant(num(7))), false},
		{cond(attr("a", "y"), api.RelEq, attr("b", "z")), true},
		{cond(attr("a", "y"), api.RelLt, attr("b", "z")), false},
		{cond(attr("a", "y"), api.RelNe, attr("b", "x")), true},
		{cond(attr("a", "w"), api.RelNe, attr("b", "x")), false},
		{cond(api.Operand{Var: "c", Value: str("a")}, api.RelEq, attr("", "y")), true},
	} {
		for _, n := range []int{1, api.MaxConds - 1, api.MaxConds, api.MaxConds + 1, 2 * api.MaxConds, 1000} {
			wantTerm(t, term(slices.Repeat([]api.Cond{x.c}, n)...), e, x.want)
		}
	}
}
