package pred_test

import (
	"slices"
	"strings"
	"testing"
	"time"

	"eyrie/api"
	"eyrie/pred"
)

// THE BOUND: very long lists, in near-linear time: were it the square of it, each of them would take minutes.

// soon fails, if something takes far longer than near-linear time.
func soon(t *testing.T, what string, f func()) {
	t.Helper()
	begin := time.Now()
	f()
	if d := time.Since(begin); d > 20*time.Second {
		t.Errorf("%s: %v", what, d)
	}
}

const many = 1 << 18

func want(t *testing.T, what string, got, want bool) {
	t.Helper()
	if got != want {
		t.Errorf("%s: %v", what, got)
	}
}

// wide is an event with as many attributes as there are names, each with another int.
func wide(names []string) api.Event {
	e := event()
	for i, s := range names {
		e.Attrs = append(e.Attrs, named(s, num(int64(i))))
	}
	return e
}

// Many tests of many attributes.
func TestTermOfManyTestsAndAttributes(t *testing.T) {
	names := numbered(many)
	e := wide(names)
	var l []api.Cond
	for i := range names {
		at := many - 1 - i
		l = append(l, cond(attr("", names[at]), api.RelEq, constant(num(int64(at)))))
		if at > 0 {
			l = append(l, cond(attr("a", names[at]), api.RelGt, attr(names[i], names[at-1])))
		}
	}
	soon(t, "many tests and attributes", func() {
		want(t, "Term", pred.Term(term(l...), e), true)
		l[len(l)-1].Rel = api.RelLt
		want(t, "Term with one that fails", pred.Term(term(l...), e), false)
		want(t, "Term with few tests", pred.Term(term(l[:api.MaxConds]...), e), true)
		want(t, "Term of no attributes", pred.Term(term(l...), event()), false)
		want(t, "Test", pred.Test(l[0], e), true)
	})
}

// Many conditions of many bounds.
func TestAllOfManyBounds(t *testing.T) {
	names := numbered(many)
	var p api.Partial
	var l []api.Cond
	for i, s := range names {
		p.Bounds = append(p.Bounds, bound(s, with(num(int64(i)))))
		l = append(l, cond(attr(names[many-1-i], "x"), api.RelEq, constant(num(int64(many-1-i)))), cond(attr(s, "x"), api.RelLe, attr(names[many-1], "x")))
	}
	soon(t, "many bounds", func() {
		want(t, "All", pred.All(l, p), true)
		l[len(l)-1].Rel = api.RelNe
		want(t, "All with one that fails", pred.All(l, p), false)
		want(t, "All of few", pred.All(l[:api.MaxConds], p), true)
		want(t, "All of none bound", pred.All(l, api.Partial{}), true)
		want(t, "All of few bound", pred.All(l, partial(p.Bounds[:5]...)), true)
		want(t, "Cond", pred.Cond(l[0], p), true)
		wantValue(t, attr(names[many-1], "x"), p, num(many-1), true)
		wantValue(t, attr("none", "x"), p, api.Value{}, false)
	})
}

// Many conditions of few events with many attributes, and of one variable that is bound many times.
func TestAllOfManyAttributes(t *testing.T) {
	names := numbered(many)
	e := wide(names)
	p := partial(bound("a", e), bound("b", e))
	var l []api.Cond
	for i, s := range names {
		l = append(l, cond(attr("b", s), api.RelEq, constant(num(int64(i)))), cond(attr("a", names[many-1-i]), api.RelEq, attr("b", names[many-1-i])))
	}
	soon(t, "many attributes", func() {
		want(t, "All", pred.All(l, p), true)
		l[len(l)-1].Rel = api.RelNe
		want(t, "All with one that fails", pred.All(l, p), false)
	})
	twice := partial(slices.Repeat([]api.Bound{bound("a", with(num(1)))}, many)...)
	twice.Bounds = append(twice.Bounds, bound("b", event(slices.Repeat([]api.Attr{named("x", num(2))}, many)...)))
	soon(t, "the same many times", func() {
		want(t, "All", pred.All(slices.Repeat(conds(t, "a.x = 1, b.x = 2, a.x < b.x"), many), twice), true)
		want(t, "All", pred.All(slices.Repeat(conds(t, "b.x = a.x"), many), twice), false)
	})
}

// Many conditions of strings that are very long and much alike.
func TestManyConditionsOfLongStrings(t *testing.T) {
	const length = 1 << 22
	long := strings.Repeat("a", length)
	e := event(named("x", str(long+"b")), named("y", str(strings.Clone(long)+"b")), named("z", str(long+"c")))
	l := slices.Repeat(conds(t, "x = y, x < z, y <= x, z != x, z > y, z >= x"), 1<<15)
	bounds := slices.Repeat(conds(t, "a.x = b.y, a.x < b.z, a.y <= b.x, a.z != b.x, a.z > b.y, a.z >= a.x"), 1<<15)
	p := partial(bound("a", e), bound("b", event(slices.Clone(e.Attrs)...)))
	soon(t, "long strings", func() {
		want(t, "Term", pred.Term(term(l...), e), true)
		want(t, "All", pred.All(bounds, p), true)
		bounds[len(bounds)-1].Rel = api.RelLt
		want(t, "All with one that fails", pred.All(bounds, p), false)
		want(t, "Cond", pred.Cond(bounds[0], p), true)
	})
}

// Many strings, held against those near by and far away.
func TestManyConditionsOfManyStrings(t *testing.T) {
	names := numbered(many)
	e := event()
	var l []api.Cond
	for i, s := range names {
		e.Attrs = append(e.Attrs, named(s, str(s)))
		for far := 1; i+far < many; far *= 17 {
			l = append(l, cond(attr("a", s), api.RelLt, attr("a", names[i+far])))
		}
	}
	soon(t, "many strings", func() {
		want(t, "All", pred.All(l, partial(bound("a", e))), true)
		want(t, "Term", pred.Term(term(l...), e), true)
		l[len(l)-1].Rel = api.RelGe
		want(t, "All with one that fails", pred.All(l, partial(bound("a", e))), false)
	})
}

// Many conditions and names that are very long, and differ at their ends alone.
func TestLongNames(t *testing.T) {
	long := strings.Repeat("n", 1<<22)
	names := []string{long + "a", long + "b", long + "c"}
	e := wide(names)
	p := partial(bound(names[0], e), bound(names[1], e))
	l := []api.Cond{cond(attr(names[1], names[1]), api.RelEq, constant(num(1))), cond(attr(names[0], names[2]), api.RelGt, attr(names[1], names[0])), cond(attr(names[2], "x"), api.RelEq, constant(num(1)))}
	l = slices.Repeat(l, 10)
	soon(t, "long names", func() {
		want(t, "All", pred.All(l, p), true)
		want(t, "Term", pred.Term(term(l[1]), e), true)
		wantNames(t, l[1], names[0], names[1])
		yes, no := pred.Split(l, names[1], names[0])
		if len(yes) != 20 || len(no) != 10 {
			t.Errorf("Split: %d and %d", len(yes), len(no))
		}
	})
}

func TestSplitOfManyVariables(t *testing.T) {
	names := numbered(many)
	var l []api.Cond
	for i, s := range names {
		l = append(l, cond(attr(names[many-1-i], "x"), api.RelEq, attr(s, "x")))
	}
	soon(t, "many variables", func() {
		wantSplit(t, l, names, l, nil)
		wantSplit(t, l, names[:many/2], nil, l)
		wantSplit(t, l, nil, nil, l)
		wantSplit(t, l[:api.MaxConds], names, l[:api.MaxConds], nil)
		wantSplit(t, l, names[1:], l[1:many-1], []api.Cond{l[0], l[many-1]})
		wantReady(t, l[0], true, names...)
		wantReady(t, l[0], false, names[1:]...)
	})
}

// Kids of a term count for nothing, even if they have no end.
func TestKidsThatHoldThemselves(t *testing.T) {
	n := term(conds(t, "x = 1")...)
	n.Kids = []api.Node{n}
	n.Kids[0].Kids = n.Kids
	wantTerm(t, n, with(num(1)), true)
	wantTerm(t, n, with(num(2)), false)
}
