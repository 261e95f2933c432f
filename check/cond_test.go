package check_test

import (
	"slices"
	"strings"
	"testing"

	"eyrie/api"
	"eyrie/check"
)

// P7.4

func wantCond(t *testing.T, c api.Cond, want api.Errno, vars ...string) {
	t.Helper()
	if err := check.Cond(c, vars...); err != want {
		t.Errorf("%+v, vars %q: error %d, not %d", c, vars, err, want)
	}
	if model := modelCond(c, vars...); model != want {
		t.Errorf("%+v, vars %q: the chapter says %d, not %d", c, vars, model, want)
	}
}

// both asks for an operand at either side, beside one that may be.
func both(t *testing.T, o api.Operand, beside api.Operand, want api.Errno, vars ...string) {
	t.Helper()
	wantCond(t, cond(o, api.RelLe, beside), want, vars...)
	wantCond(t, cond(beside, api.RelLe, o), want, vars...)
}

func TestCondRelations(t *testing.T) {
	for rel := -3; rel < 12; rel++ {
		want := api.ErrCond
		if rel >= 1 && rel <= 6 {
			want = api.OK
		}
		wantCond(t, cond(attr("", "x"), rel, num(1)), want)
		wantCond(t, cond(attr("a", "x"), rel, attr("b", "y")), want, "b", "a")
	}
	for _, rel := range []int{1 << 32, 1<<32 + 1, -1 << 63, 1<<63 - 1} {
		wantCond(t, cond(attr("", "x"), rel, num(1)), api.ErrCond)
	}
}

func TestCondConstants(t *testing.T) {
	x := attr("", "x")
	for _, o := range []api.Operand{num(0), num(-1 << 63), num(1<<63 - 1), str(""), str("a\x00\xff"), str(strings.Repeat("s", api.MaxString))} {
		both(t, o, x, api.OK)
		both(t, o, attr("a", "x"), api.OK, "a")
		// it has a Var
		o.Var = "a"
		both(t, o, x, api.ErrCond)
		both(t, o, attr("a", "x"), api.ErrCond, "a")
		o.Var = " "
		both(t, o, x, api.ErrCond)
	}
	for _, v := range []api.Value{{}, {Kind: api.VInt, S: "s"}, {Kind: api.VInt, N: 1, S: "s"}, {Kind: api.VStr, N: 1}, {Kind: api.VStr, S: strings.Repeat("s", api.MaxString+1)}, {Kind: 3}, {Kind: -1, N: 1}, {N: 1}, {S: "s"}} {
		both(t, api.Operand{Value: v}, x, api.ErrCond)
		both(t, api.Operand{Value: v}, attr("a", "x"), api.ErrCond, "a")
		both(t, api.Operand{Var: "a", Value: v}, attr("a", "x"), api.ErrCond, "a")
		both(t, api.Operand{Value: v}, num(1), api.ErrCond)
	}
	// an operand without an Attr is a constant, also one with a Var and no Value
	both(t, attr("a", ""), attr("a", "x"), api.ErrCond, "a")
	both(t, attr("", ""), x, api.ErrCond)
}

func TestTwoConstants(t *testing.T) {
	for _, l := range []api.Operand{num(1), num(2), str("s"), str("")} {
		for _, r := range []api.Operand{num(1), str("s")} {
			for rel := 1; rel <= 6; rel++ {
				wantCond(t, cond(l, rel, r), api.ErrCond)
				wantCond(t, cond(l, rel, r), api.ErrCond, "a")
				wantCond(t, cond(l, rel, r), api.ErrCond, "")
			}
		}
	}
}

func TestCondAttrs(t *testing.T) {
	for _, s := range notNames() {
		both(t, attr("", s), attr("", "x"), api.ErrCond)
		both(t, attr("a", s), attr("a", "x"), api.ErrCond, "a")
	}
	both(t, attr("", longest()), attr("", "x"), api.OK)
	both(t, attr("", "where"), attr("", "_0"), api.OK)
	wantCond(t, cond(attr("", "x"), api.RelNe, attr("", "x")), api.OK)
	wantCond(t, cond(attr("a", "x"), api.RelNe, attr("a", "x")), api.OK, "a")
	// it has a Value
	for _, v := range []api.Value{{Kind: api.VInt}, {Kind: api.VStr}, {N: 1}, {S: "s"}, num(1).Value, {Kind: -1}} {
		both(t, api.Operand{Attr: "x", Value: v}, attr("", "y"), api.ErrCond)
		both(t, api.Operand{Attr: "x", Value: v}, num(1), api.ErrCond)
		both(t, api.Operand{Var: "a", Attr: "x", Value: v}, attr("a", "y"), api.ErrCond, "a")
	}
}

func TestCondVars(t *testing.T) {
	x, a, b, one := attr("", "x"), attr("a", "x"), attr("b", "x"), num(1)
	// without vars
	both(t, x, one, api.OK)
	both(t, a, one, api.ErrCond)
	both(t, a, x, api.ErrCond)
	both(t, x, attr("", "y"), api.OK)
	if err := check.Cond(cond(x, api.RelEq, one), []string{}...); err != api.OK {
		t.Errorf("an empty list of vars: error %d", err)
	}
	if err := check.Cond(cond(a, api.RelEq, one), []string{}...); err != api.ErrCond {
		t.Errorf("an empty list of vars: error %d", err)
	}
	// with some
	for _, vars := range [][]string{{"a"}, {"b", "a"}, {"a", "a"}, {"c", "b", "a"}, {"a", "b", "c"}} {
		both(t, a, one, api.OK, vars...)
		both(t, x, one, api.ErrCond, vars...)
		both(t, a, x, api.ErrCond, vars...)
		both(t, attr("d", "x"), one, api.ErrCond, vars...)
		both(t, attr("aa", "x"), one, api.ErrCond, vars...)
		both(t, attr("A", "x"), one, api.ErrCond, vars...)
		want := api.ErrCond
		if slices.Contains(vars, "b") {
			want = api.OK
		}
		both(t, a, b, want, vars...)
		both(t, b, one, want, vars...)
	}
	// with an empty one among them
	both(t, x, one, api.OK, "")
	both(t, a, one, api.ErrCond, "")
	both(t, x, a, api.ErrCond, "")
	both(t, x, a, api.OK, "", "a")
	both(t, x, a, api.OK, "a", "")
	both(t, x, b, api.ErrCond, "a", "")
	both(t, x, x, api.OK, "", "")
	// what vars are is not asked: they need be no names
	both(t, attr("a b", "x"), one, api.OK, "a b")
	many := names(1 << 16)
	both(t, attr(many[len(many)-1], "x"), attr(many[0], "y"), api.OK, many...)
	both(t, attr("v", "x"), attr(many[0], "y"), api.ErrCond, many...)
}

// Operands with each fault alone and with each two, at either side, with each relation, and all lists of vars.
func TestCondAll(t *testing.T) {
	var sides []api.Operand
	for _, name := range []string{"", "a", "b"} {
		for _, at := range []string{"", "x", "1"} {
			for _, v := range []api.Value{{}, num(1).Value, str("s").Value, {Kind: api.VInt, S: "s"}, {Kind: 7}, {N: 1}} {
				sides = append(sides, api.Operand{Var: name, Attr: at, Value: v})
			}
		}
	}
	taken := 0
	for _, vars := range [][]string{nil, {"a"}, {"b"}, {"a", "b"}, {""}, {"", "a"}, {"b", ""}} {
		for _, l := range sides {
			for _, r := range sides {
				for rel := range 8 {
					c := cond(l, rel, r)
					want := modelCond(c, vars...)
					if err := check.Cond(c, vars...); err != want {
						t.Errorf("%+v, vars %q: error %d, not %d", c, vars, err, want)
					}
					if want == api.OK {
						taken++
					}
				}
			}
		}
	}
	if taken < 150 {
		t.Errorf("%d are taken", taken)
	}
}
