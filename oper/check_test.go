package oper_test

import (
	"math"
	"slices"
	"strings"
	"testing"

	"eyrie/api"
	"eyrie/oper"
)

// P14.1

// mayBe are operators that may be, the edges among them.
func mayBe(t *testing.T) []api.Op {
	l := several(t)
	most := slices.Repeat(conds(t, "a.x = 1"), api.MaxConds)
	for _, kind := range []int{api.OpSeq, api.OpAnd, api.OpOr} {
		for inputs := 2; inputs <= 12; inputs++ {
			l = append(l, op(kind, inputs, 1), op(kind, inputs, maxTime, most...))
		}
	}
	l = append(l, op(api.OpRoot, 1, 1), op(api.OpRoot, 1, maxTime, most...), term("a", most, most))
	for rel := api.RelEq; rel <= api.RelGe; rel++ {
		c := api.Cond{Rel: rel} // of its operands nothing is asked
		l = append(l, term("a", []api.Cond{c}, []api.Cond{c}), op(api.OpRoot, 1, 5, c))
	}
	for _, name := range []string{"_", "Z9", strings.Repeat("n", api.MaxName)} {
		o := term(name, nil, nil)
		o.Type, o.Window = name, maxTime
		l = append(l, o)
	}
	for i := range l {
		if len(l[i].Tests) == 0 { // R4
			l[i].Tests = []api.Cond{}
		}
	}
	return append(l, term("a", nil, []api.Cond{}), op(api.OpAnd, 2, 5, []api.Cond{}...))
}

func wantOp(t *testing.T, o api.Op, want api.Errno) {
	t.Helper()
	if err := oper.Check(o); err != want {
		t.Errorf("Check(%v): error %d, not %d", o, err, want)
	}
	x, err := oper.New(o)
	if err != want || (x != nil) != (want == api.OK) {
		t.Fatalf("New(%v): error %d, not %d", o, err, want)
	}
	if want != api.OK {
		if x, err := oper.Restore(o, []byte{0xff}); x != nil || err != want {
			t.Errorf("Restore of %v: error %d", o, err)
		}
		return
	}
	if !alikeOps(x.Op(), o) {
		t.Errorf("%v, not %v", x.Op(), o)
	}
	wantModel(t, x, newModel(o))
}

func TestOperatorsThatMayBe(t *testing.T) {
	for _, o := range mayBe(t) {
		wantOp(t, o, api.OK)
	}
}

func TestOperatorsThatMayNotBe(t *testing.T) {
	for _, o := range mayBe(t) {
		wrong := func(change func(*api.Op)) {
			t.Helper()
			c := o
			c.Tests, c.Conds = slices.Clone(o.Tests), slices.Clone(o.Conds)
			change(&c)
			wantOp(t, c, api.ErrOp)
		}
		for _, kind := range []int{0, -1, 6, 7, math.MinInt, math.MaxInt, 1 << 32, 1<<32 + api.OpSeq} {
			wrong(func(c *api.Op) { c.Kind = kind })
		}
		for _, window := range []int64{0, -1, maxTime + 1, math.MinInt64, math.MaxInt64, 1<<63 - maxTime} {
			wrong(func(c *api.Op) { c.Window = window })
		}
		for _, inputs := range []int{0, -1, 13, 14, math.MinInt, math.MaxInt, 1 << 32, 1<<32 + 2} {
			wrong(func(c *api.Op) { c.Inputs = inputs })
		}
		for _, rel := range []int{0, -1, 7, math.MinInt, math.MaxInt, 1<<32 + 1} {
			bad := api.Cond{Left: api.Operand{Var: "a", Attr: "x"}, Rel: rel}
			wrong(func(c *api.Op) { c.Conds = append(c.Conds[:min(15, len(c.Conds))], bad) })
			wrong(func(c *api.Op) { c.Tests = append(c.Tests[:min(15, len(c.Tests))], bad) })
		}
		many := slices.Repeat(conds(t, "x = 1"), 17)
		wrong(func(c *api.Op) { c.Conds = many })
		wrong(func(c *api.Op) { c.Tests = many })
		one := o.Kind == api.OpTerm || o.Kind == api.OpRoot
		wrong(func(c *api.Op) { c.Inputs = map[bool]int{true: 2, false: 1}[one] })
		if o.Kind == api.OpTerm {
			for _, name := range []string{"", "1", "a b", "a-", "\xff", strings.Repeat("n", api.MaxName+1)} {
				wrong(func(c *api.Op) { c.Var = name })
				wrong(func(c *api.Op) { c.Type = name })
			}
			continue
		}
		wrong(func(c *api.Op) { c.Var = "a" })
		wrong(func(c *api.Op) { c.Type = "A" })
		wrong(func(c *api.Op) { c.Tests = conds(t, "x = 1") })
	}
	wantOp(t, api.Op{}, api.ErrOp)
	// an OpRoot is no OpTerm, and the other way round
	o := term("a", nil, nil)
	o.Kind = api.OpRoot
	wantOp(t, o, api.ErrOp)
	o = op(api.OpRoot, 1, 5)
	o.Kind = api.OpTerm
	wantOp(t, o, api.ErrOp)
}
