package pred_test

import (
	"slices"
	"strings"
	"testing"

	"eyrie/api"
	"eyrie/pred"
)

// The chapter's words, written anew, as plainly as can be.

// modelHolds is a relation of two values, by how they stand.
func modelHolds(rel int, a, b api.Value) bool {
	kinds := []int{api.VInt, api.VStr}
	if !slices.Contains(kinds, a.Kind) || !slices.Contains(kinds, b.Kind) {
		return false
	}
	if a.Kind != b.Kind {
		return rel == api.RelNe
	}
	less, more := a.N < b.N, a.N > b.N
	if a.Kind == api.VStr {
		order := strings.Compare(a.S, b.S)
		less, more = order < 0, order > 0
	}
	same := !less && !more
	return map[int]bool{api.RelEq: same, api.RelNe: !same, api.RelLt: less, api.RelLe: less || same, api.RelGt: more, api.RelGe: more || same}[rel]
}

// modelAttr is an event's attribute.
func modelAttr(e api.Event, name string) api.Value {
	var v api.Value
	for i := len(e.Attrs) - 1; i >= 0; i-- { // the first one of that name is left
		if e.Attrs[i].Name == name {
			v = e.Attrs[i].Value
		}
	}
	return v
}

func modelTest(c api.Cond, e api.Event) bool {
	var l []api.Value
	for _, o := range []api.Operand{c.Left, c.Right} {
		if o.Attr == "" {
			l = append(l, o.Value)
		} else {
			l = append(l, modelAttr(e, o.Attr))
		}
	}
	return modelHolds(c.Rel, l[0], l[1])
}

func modelTerm(n api.Node, e api.Event) bool {
	for _, c := range n.Tests {
		if !modelTest(c, e) {
			return false
		}
	}
	return n.Kind == api.NdTerm && n.Type == e.Type
}

func modelValue(o api.Operand, p api.Partial) (api.Value, bool) {
	if o.Attr == "" {
		return o.Value, true
	}
	var l []api.Value
	for _, b := range p.Bounds {
		if b.Var == o.Var {
			l = append(l, modelAttr(b.Event, o.Attr))
		}
	}
	if len(l) == 0 {
		return api.Value{}, false
	}
	return l[0], true
}

func modelNames(c api.Cond) []string {
	var l []string
	if c.Left.Attr != "" {
		l = append(l, c.Left.Var)
	}
	if c.Right.Attr != "" && !slices.Contains(l, c.Right.Var) {
		l = append(l, c.Right.Var)
	}
	if len(l) == 2 && l[1] < l[0] {
		l[0], l[1] = l[1], l[0]
	}
	return l
}

func modelReady(c api.Cond, vars []string) bool {
	n := 0
	for _, name := range modelNames(c) {
		if slices.Contains(vars, name) {
			n++
		}
	}
	return n == len(modelNames(c))
}

func modelCond(c api.Cond, p api.Partial) bool {
	a, left := modelValue(c.Left, p)
	b, right := modelValue(c.Right, p)
	if left && right {
		return modelHolds(c.Rel, a, b)
	}
	return true
}

func modelAll(l []api.Cond, p api.Partial) bool {
	n := 0
	for _, c := range l {
		if modelCond(c, p) {
			n++
		}
	}
	return n == len(l)
}

func modelSplit(l []api.Cond, vars []string) (yes, no []api.Cond) {
	for _, c := range l {
		if modelReady(c, vars) {
			yes = append(yes, c)
		}
	}
	for _, c := range l {
		if !modelReady(c, vars) {
			no = append(no, c)
		}
	}
	return yes, no
}

// counted counts how often each answer comes, so that none is left out.
type counted map[bool]int

func (n counted) many(t *testing.T, what string, most int) {
	t.Helper()
	if n[true] < most || n[false] < most {
		t.Errorf("%s: %d times true, %d times false", what, n[true], n[false])
	}
}

func TestOwnEventsByChance(t *testing.T) {
	r, tests, terms := dice(), counted{}, counted{}
	for range 20000 {
		e := someEvent(r)
		c := someCond(r)
		tests[modelTest(c, e)]++
		if got := pred.Test(c, e); got != modelTest(c, e) {
			t.Fatalf("Test of %s: %v; %+v", shown(c), got, e)
		}
		l := mostly(r, r.IntN(40), func(c api.Cond) bool { return modelTest(c, e) })
		n := api.Node{Kind: pick(r, api.NdTerm, api.NdTerm, api.NdTerm, r.IntN(6)), Type: pick(r, e.Type, e.Type, e.Type, "T"), Var: someName(r), Tests: l}
		terms[modelTerm(n, e)]++
		if got := pred.Term(n, e); got != modelTerm(n, e) {
			t.Fatalf("Term of %+v: %v; %+v", n, got, e)
		}
	}
	tests.many(t, "Test", 2000)
	terms.many(t, "Term", 2000)
}

func TestBoundEventsByChance(t *testing.T) {
	r, one, all := dice(), counted{}, counted{}
	for range 20000 {
		p := somePartial(r)
		c := someCond(r)
		want, is := modelValue(c.Left, p)
		wantValue(t, c.Left, p, want, is)
		one[modelCond(c, p)]++
		if got := pred.Cond(c, p); got != modelCond(c, p) {
			t.Fatalf("Cond of %s: %v; %+v", shown(c), got, p)
		}
		l := mostly(r, r.IntN(40), func(c api.Cond) bool { return modelCond(c, p) })
		all[modelAll(l, p)]++
		wantAll(t, l, p, modelAll(l, p))
	}
	one.many(t, "Cond", 2000)
	all.many(t, "All", 2000)
}

func TestVariablesByChance(t *testing.T) {
	r, ready := dice(), counted{}
	both := 0
	for range 20000 {
		l, vars := someConds(r, r.IntN(40)), someNames(r)
		for _, c := range l {
			wantNames(t, c, modelNames(c)...)
			wantReady(t, c, modelReady(c, vars), vars...)
			ready[modelReady(c, vars)]++
		}
		yes, no := modelSplit(l, vars)
		wantSplit(t, l, vars, yes, no)
		if len(yes) > 0 && len(no) > 0 {
			both++
		}
	}
	ready.many(t, "Ready", 20000)
	if both < 5000 {
		t.Errorf("both parts have some %d times", both)
	}
}
