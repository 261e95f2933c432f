package pred_test

import (
	"slices"
	"strings"
	"testing"

	"eyrie/api"
	"eyrie/pred"
)

// P9.2: Value

func TestValueOfConstants(t *testing.T) {
	for _, p := range []api.Partial{{}, partial(bound("", with(num(9)))), partial(bound("a", with(num(9))), bound("b", event(named("", num(9)))))} {
		for _, v := range values() {
			for _, name := range []string{"", "a", "b", "c", "no name"} {
				wantValue(t, api.Operand{Var: name, Value: v}, p, v, true)
			}
		}
	}
}

func TestValueOfVariables(t *testing.T) {
	for _, v := range values() {
		p := partial(bound("a", event(named("x", v), named("y", num(7)))), bound("b", with(num(8))))
		wantValue(t, attr("a", "x"), p, v, true)
		wantValue(t, attr("a", "y"), p, num(7), true)
		wantValue(t, attr("b", "x"), p, num(8), true)
		// the Value of an operand with an attribute counts for nothing
		wantValue(t, api.Operand{Var: "b", Attr: "x", Value: v}, p, num(8), true)
		wantValue(t, api.Operand{Var: "b", Attr: "y", Value: v}, p, api.Value{}, true)
		wantValue(t, api.Operand{Var: "c", Attr: "x", Value: v}, p, api.Value{}, false)
	}
}

func TestValueOfUnboundVariables(t *testing.T) {
	for _, p := range []api.Partial{{}, partial(bound("b", with(num(1)))), partial(bound("", with(num(1))), bound("A", with(num(2))), bound("aa", with(num(3))))} {
		wantValue(t, attr("a", "x"), p, api.Value{}, false)
		wantValue(t, attr("a", "no name"), p, api.Value{}, false)
	}
	// the empty variable is one as any other
	wantValue(t, attr("", "x"), partial(bound("a", with(num(1)))), api.Value{}, false)
	wantValue(t, attr("", "x"), partial(bound("a", with(num(1))), bound("", with(num(2)))), num(2), true)
}

func TestValueOfAttributesThatThereAreNot(t *testing.T) {
	p := partial(bound("a", event()), bound("b", event(named("y", num(1)), named("", num(2)), named("xx", num(3)))))
	wantValue(t, attr("a", "x"), p, api.Value{}, true)
	wantValue(t, attr("b", "x"), p, api.Value{}, true)
	wantValue(t, attr("b", "y"), p, num(1), true)
}

// The first of two bounds, and the first of two attributes, even if it has nothing.
func TestValueOfTheFirst(t *testing.T) {
	p := partial(bound("b", with(num(0))), bound("a", with(num(1))), bound("c", with(num(3))), bound("a", with(num(2))))
	wantValue(t, attr("a", "x"), p, num(1), true)
	p.Bounds[1].Event.Attrs = nil
	wantValue(t, attr("a", "x"), p, api.Value{}, true)
	p.Bounds[1].Event.Attrs = []api.Attr{named("y", num(4)), named("x", num(5)), named("x", num(6))}
	wantValue(t, attr("a", "x"), p, num(5), true)
}

func TestValueOfAnyNames(t *testing.T) {
	names := []string{"x", "X", "xx", "x\x00", " x", "\xff", strings.Repeat("x", 100)}
	var p api.Partial
	for i, s := range names {
		p.Bounds = append(p.Bounds, bound(s, event(named(s, num(int64(i))))))
	}
	for i, s := range names {
		for j, a := range names {
			want := api.Value{}
			if i == j {
				want = num(int64(i))
			}
			wantValue(t, attr(s, a), p, want, true)
		}
	}
}

// P9.3: Cond, All

// All relations of all values, on all sides, of one event and of two.
func TestCondOfAllValues(t *testing.T) {
	for _, rel := range rels() {
		for _, a := range values() {
			for _, b := range values() {
				want := modelHolds(rel, a, b)
				p := partial(bound("a", event(named("x", a), named("y", b))), bound("b", event(named("x", b), named("y", a))))
				wantCond(t, cond(constant(a), rel, constant(b)), p, want)
				wantCond(t, cond(constant(a), rel, constant(b)), api.Partial{}, want)
				wantCond(t, cond(attr("a", "x"), rel, constant(b)), p, want)
				wantCond(t, cond(constant(a), rel, attr("b", "x")), p, want)
				wantCond(t, cond(attr("a", "x"), rel, attr("a", "y")), p, want)
				wantCond(t, cond(attr("a", "x"), rel, attr("b", "x")), p, want)
				wantCond(t, cond(attr("b", "y"), rel, attr("a", "y")), p, want)
			}
		}
	}
}

// A condition with an operand that is not bound holds, whatever else it says.
func TestCondUnbound(t *testing.T) {
	p := partial(bound("b", with(num(1))), bound("B", with(num(1))), bound("", with(num(1))))
	for _, rel := range rels() {
		for _, o := range []api.Operand{attr("a", "x"), attr("a", "no name"), attr("b", "x"), attr("b", "y"), attr("", "x"), constant(num(2)), constant(api.Value{})} {
			wantCond(t, cond(attr("a", "x"), rel, o), p, true)
			wantCond(t, cond(o, rel, attr("a", "x")), p, true)
			wantCond(t, cond(attr("c", "y"), rel, o), p, o.Var == "a" || modelCond(cond(attr("c", "y"), rel, o), p))
			wantCond(t, cond(attr("a", "x"), rel, o), api.Partial{}, true)
		}
	}
}

// With an event that has not the attribute nothing holds, bound as it is.
func TestCondOfNoSuchAttribute(t *testing.T) {
	p := partial(bound("a", event()), bound("b", with(num(1))))
	for _, rel := range rels() {
		wantCond(t, cond(attr("a", "x"), rel, attr("b", "x")), p, false)
		wantCond(t, cond(attr("b", "x"), rel, attr("a", "x")), p, false)
		wantCond(t, cond(attr("a", "x"), rel, attr("a", "x")), p, false)
		wantCond(t, cond(attr("a", "x"), rel, constant(num(1))), p, false)
		wantCond(t, cond(attr("a", "x"), rel, attr("c", "x")), p, true)
	}
}

func TestCondOfTheFirstBound(t *testing.T) {
	p := partial(bound("a", with(num(1))), bound("a", with(num(2))), bound("b", event()), bound("b", with(num(1))))
	wantCond(t, one(t, "a.x = 1"), p, true)
	wantCond(t, one(t, "a.x = 2"), p, false)
	wantCond(t, one(t, "b.x = 1"), p, false)
	wantCond(t, one(t, "a.x = b.x"), p, false)
}

func TestAllOfNone(t *testing.T) {
	for _, p := range []api.Partial{{}, partial(bound("a", event()))} {
		wantAll(t, nil, p, true)
		wantAll(t, []api.Cond{}, p, true)
	}
}

func TestAllOfSeveral(t *testing.T) {
	p := partial(bound("a", event(named("x", num(1)), named("y", str("s")))), bound("b", event(named("x", num(2)))))
	for text, want := range map[string]bool{
		"a.x = 1, b.x = 2": true, "a.x = 1, b.x = 1": false, "a.x = 2, b.x = 2": false, "a.x < b.x, a.y = \"s\", c.x = 1, 3 > b.x": true,
		"a.x < b.x, a.y = \"s\", c.x = 1, 3 < b.x": false, "c.x = 1, c.x = 2, d.x < c.x": true, "c.x = 1, b.y = 1": false,
		"a.y != a.x, a.x != b.y": false, "a.y != a.x, a.x != c.y": true,
	} {
		wantAll(t, conds(t, text), p, want)
	}
}

// One condition that fails, at each place of lists of each length.
func TestAllFailsAtEachPlace(t *testing.T) {
	good, open, bad := one(t, "a.x > 3"), one(t, "c.x = 3"), one(t, "a.y = b.y")
	p := partial(bound("a", event(named("x", num(5)), named("y", str("a")))), bound("b", event(named("y", str("b")))))
	for n := range 40 {
		l := slices.Repeat([]api.Cond{good, open}, n)[:n]
		wantAll(t, l, p, true)
		for i, c := range l {
			l[i] = bad
			wantAll(t, l, p, false)
			l[i] = c
		}
	}
}

// Strings that are long and much alike, in many conditions.
func TestAllOfLongStrings(t *testing.T) {
	e := event()
	long := strings.Repeat("a", 3*api.MaxString)
	for i, s := range []string{"", "a", long, long + "\x00", long + "a", long + "b", "b" + long, "b"} {
		e.Attrs = append(e.Attrs, named(numbered(8)[i], str(s)))
	}
	p := partial(bound("a", e))
	for i, a := range e.Attrs {
		for j, b := range e.Attrs {
			for rel := api.RelEq; rel <= api.RelGe; rel++ {
				order := modelHolds(rel, num(int64(i)), num(int64(j)))
				if i > 5 && j > 5 {
					order = modelHolds(rel, num(int64(j)), num(int64(i))) // the last two fall
				}
				wantCond(t, cond(attr("a", a.Name), rel, attr("a", b.Name)), p, order)
				wantCond(t, cond(attr("a", a.Name), rel, constant(b.Value)), p, order)
				wantTest(t, cond(attr("a", a.Name), rel, attr("b", b.Name)), e, order)
			}
		}
	}
}

// An int's string counts for nothing, in many conditions, too.
func TestAllOfIntsWithStrings(t *testing.T) {
	p := partial(bound("a", event(named("x", api.Value{Kind: api.VInt, N: 1, S: "b"}), named("y", api.Value{Kind: api.VInt, N: 1, S: "a"}), named("z", api.Value{Kind: api.VStr, N: 5, S: "a"}))))
	for n := range 3 {
		l := slices.Repeat(conds(t, "a.x = a.y, a.x <= a.y, a.x >= a.y, a.x != a.z, a.y != a.z"), 1+10*n)
		if !pred.All(l, p) {
			t.Errorf("%d: not all hold", len(l))
		}
	}
}
