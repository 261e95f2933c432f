package oper_test

import (
	"math/rand/v2"
	"slices"
	"testing"

	"eyrie/api"
	"eyrie/bits"
	"eyrie/match"
	"eyrie/oper"
	"eyrie/pred"
	"eyrie/value"
)

// The chapter's words, written anew, as plainly as can be.

// model is an operator: its marks, and what is kept of each input, in whatever order.
type model struct {
	o     api.Op
	marks []int64
	kept  [][]api.Partial
}

func newModel(o api.Op) *model {
	return &model{o, make([]int64, o.Inputs), make([][]api.Partial, o.Inputs)}
}

// asked is an operand's value of bound events, and whether it has one.
func asked(o api.Operand, p api.Partial) (v api.Value, has bool) {
	if o.Attr == "" {
		return o.Value, true
	}
	for _, b := range p.Bounds {
		if b.Var != o.Var {
			continue
		}
		has = true
		for _, a := range b.Event.Attrs {
			if a.Name == o.Attr {
				v = a.Value
			}
		}
	}
	return v, has
}

func modelPasses(o api.Op, p api.Partial) bool {
	for _, a := range p.Bounds {
		for _, b := range p.Bounds {
			if a.Event.Time-b.Event.Time > o.Window {
				return false
			}
		}
	}
	for _, c := range o.Conds {
		left, l := asked(c.Left, p)
		right, r := asked(c.Right, p)
		if l && r && !value.Holds(c.Rel, left, right) {
			return false
		}
	}
	return true
}

func (m *model) merged() int64 { return slices.Min(m.marks) }

// horizon is the time below which nothing is kept.
func (m *model) horizon() int64 {
	least := m.merged()
	if least == forever {
		return forever
	}
	return max(least-m.o.Window, 0)
}

func isRaw(p api.Partial) bool { return len(p.Bounds) == 1 && p.Bounds[0].Var == "" }

// feed is what Feed should answer.
func (m *model) feed(input int, p api.Partial) ([]api.Partial, api.Errno) {
	if input < 0 || input >= m.o.Inputs {
		return nil, api.ErrArg
	}
	if err := match.Check(p); err != api.OK {
		return nil, err
	}
	if isRaw(p) && m.o.Kind != api.OpTerm || !isRaw(p) && m.o.Kind == api.OpTerm {
		return nil, api.ErrPartial
	}
	if match.End(p) < m.marks[input] {
		return nil, api.ErrLate
	}
	if m.o.Kind == api.OpTerm {
		return m.named(p.Bounds[0].Event), api.OK
	}
	if !modelPasses(m.o, p) {
		return nil, api.OK
	}
	if m.o.Kind == api.OpOr || m.o.Kind == api.OpRoot {
		return m.once(p)
	}
	l := m.joined(input, p)
	if len(l) > maxStore {
		return nil, api.ErrFull
	}
	return l, m.keep(input, p)
}

func (m *model) named(e api.Event) []api.Partial {
	p := partial(bound(m.o.Var, e))
	if e.Type != m.o.Type || !modelPasses(m.o, p) {
		return nil
	}
	for _, c := range m.o.Tests {
		if !pred.Test(c, e) {
			return nil
		}
	}
	return []api.Partial{p}
}

func (m *model) once(p api.Partial) ([]api.Partial, api.Errno) {
	if m.has(0, p) {
		return nil, api.OK
	}
	if err := m.keep(0, p); err != api.OK {
		return nil, err
	}
	return []api.Partial{p}, api.OK
}

func (m *model) has(input int, p api.Partial) bool {
	return slices.ContainsFunc(m.kept[input], func(o api.Partial) bool { return match.Compare(o, p) == 0 })
}

func (m *model) keep(input int, p api.Partial) api.Errno {
	if m.has(input, p) || match.Begin(p) < m.horizon() {
		return api.OK
	}
	if len(m.kept[input]) == maxStore || m.forms()+formOf(p) > maxForms {
		return api.ErrFull
	}
	m.kept[input] = append(m.kept[input], match.Clone(p))
	return api.OK
}

func (m *model) forms() int {
	sum := 0
	for _, l := range m.kept {
		for _, p := range l {
			sum += formOf(p)
		}
	}
	return sum
}

// formOf is how many bits a form has.
func formOf(p api.Partial) int {
	s := bits.NewSink()
	match.Put(s, p)
	return s.Len()
}

// way is one of each input, and what comes of them.
type way struct {
	parts []api.Partial
	whole api.Partial
}

// joined is what comes of a partial match on an input and of each way to take one of the others, each once, rising.
func (m *model) joined(input int, p api.Partial) []api.Partial {
	choices := slices.Clone(m.kept)
	choices[input] = []api.Partial{p}
	return wholes(ways(m.o, choices))
}

// ways are all ways to take one of each list of which something comes.
func ways(o api.Op, choices [][]api.Partial) []way {
	l := []way{{}}
	for i, choice := range choices {
		var longer []way
		for _, w := range l {
			for _, p := range choice {
				whole, ok := match.Merge(w.whole, p)
				if i > 0 && o.Kind == api.OpSeq && match.End(w.parts[i-1]) >= match.Begin(p) {
					ok = false
				}
				if ok {
					longer = append(longer, way{append(slices.Clone(w.parts), p), whole})
				}
			}
		}
		l = longer
	}
	return slices.DeleteFunc(l, func(w way) bool { return !modelPasses(o, w.whole) })
}

// wholes are what comes of ways: of those that are 0 to each other the first by its parts.
func wholes(l []way) []api.Partial {
	slices.SortStableFunc(l, func(a, b way) int {
		if n := match.Compare(a.whole, b.whole); n != 0 {
			return n
		}
		return slices.CompareFunc(a.parts, b.parts, match.Compare)
	})
	l = slices.CompactFunc(l, func(a, b way) bool { return match.Compare(a.whole, b.whole) == 0 })
	var told []api.Partial
	for _, w := range l {
		told = append(told, w.whole)
	}
	return told
}

// mark is what Mark should answer.
func (m *model) mark(input int, t int64) (int64, bool, api.Errno) {
	if input < 0 || input >= m.o.Inputs || t < 0 || t > forever {
		return 0, false, api.ErrArg
	}
	if t < m.marks[input] {
		return 0, false, api.ErrMark
	}
	was := m.merged()
	m.marks[input] = t
	for i, l := range m.kept {
		m.kept[i] = slices.DeleteFunc(slices.Clone(l), func(p api.Partial) bool { return match.Begin(p) < m.horizon() })
	}
	return m.merged(), m.merged() > was, api.OK
}

// state is what Snapshot should answer, as '0' and '1'.
func (m *model) state() string {
	s := ""
	for _, t := range m.marks {
		s += nat(uint64(t))
	}
	for _, l := range m.kept {
		s += list(sorted(l)...)
	}
	return s
}

// modelRestore is what Restore should answer of bytes, for an operator that may be.
func modelRestore(o api.Op, b []byte) (*model, api.Errno) {
	m, s := newModel(o), bits.NewSource(b)
	for i := range m.marks {
		t, err := s.Nat()
		if err != api.OK {
			return nil, err
		}
		if t > forever {
			return nil, api.ErrState
		}
		m.marks[i] = int64(t)
	}
	for i := range m.kept {
		n, err := s.Nat()
		if err != api.OK {
			return nil, err
		}
		if n > maxStore {
			return nil, api.ErrState
		}
		for k := range int(n) {
			p, err := match.Take(s)
			if err != api.OK {
				return nil, err
			}
			falls := k > 0 && match.Compare(m.kept[i][k-1], p) >= 0
			none := o.Kind == api.OpTerm || i > 0 && (o.Kind == api.OpOr || o.Kind == api.OpRoot)
			if falls || none || isRaw(p) || match.Begin(p) < m.horizon() || m.forms()+formOf(p) > maxForms {
				return nil, api.ErrState
			}
			m.kept[i] = append(m.kept[i], p)
		}
	}
	if s.End() != api.OK {
		return nil, api.ErrMore
	}
	return m, api.OK
}

// wantModel asks whether an operator is as the model is.
func wantModel(t testing.TB, x *oper.Oper, m *model) {
	t.Helper()
	if !alikeOps(x.Op(), m.o) || x.Merged() != m.merged() {
		t.Fatalf("%v, %d, not %v, %d", x.Op(), x.Merged(), m.o, m.merged())
	}
	for i, mark := range m.marks {
		if x.At(i) != mark {
			t.Fatalf("At(%d): %d, not %d", i, x.At(i), mark)
		}
		wantKept(t, x, i, sorted(m.kept[i])...)
	}
}

// By chance.

// world is where things come from by chance: few variables and events, so that many have something in common.
type world struct {
	*rand.Rand
	t      testing.TB
	unlike bool // events of one ID differ from one time to the next
	now    int64
}

func (w world) event() api.Event {
	id := api.ID{Source: w.IntN(2), Seq: w.Int64N(6)}
	n := int64(id.Source)*7 + id.Seq*3
	if w.unlike {
		n = w.Int64N(100)
	}
	e := ev(id.Source, id.Seq, w.now+n%9)
	if n%4 > 0 {
		e.Attrs = append(e.Attrs, attr("x", num(n%3)))
	}
	if n%3 > 0 {
		e.Attrs = append(e.Attrs, attr("y", str([]string{"u", "v"}[n%2])))
	}
	if n%11 == 0 {
		e.Type = "B"
	}
	return e
}

// partial is a partial match of as many variables.
func (w world) partial(many int, of ...string) api.Partial {
	vars := slices.Clone(of)
	w.Shuffle(len(vars), func(i, k int) { vars[i], vars[k] = vars[k], vars[i] })
	vars = vars[:min(many, len(vars))]
	slices.Sort(vars)
	var p api.Partial
	for _, name := range vars {
		e := w.event()
		if !slices.ContainsFunc(p.Bounds, func(b api.Bound) bool { return b.Event.ID == e.ID }) {
			p.Bounds = append(p.Bounds, bound(name, e))
		}
	}
	return p
}

// op is an operator of a Kind, with a few conditions.
func (w world) op(kind int) api.Op {
	l := conds(w.t, "a.x = b.x, a.x < c.x, b.y != \"u\", d.x >= 0, c.y = d.y, b.x != c.x, e.x > 0, a.x > b.none")
	var some []api.Cond
	for range w.IntN(3) {
		some = append(some, pick(w.Rand, l...))
	}
	if w.IntN(20) == 0 { // of no variable, and of one that nothing binds
		some = append(some, api.Cond{Left: api.Operand{Value: num(1)}, Rel: pick(w.Rand, api.RelLt, api.RelGt), Right: api.Operand{Value: num(2)}})
		some = append(some, api.Cond{Left: api.Operand{Attr: "x"}, Rel: api.RelGt, Right: api.Operand{Attr: "x"}})
	}
	o := op(kind, 2+w.IntN(3), 1+w.Int64N(12), some...)
	if kind == api.OpRoot {
		o.Inputs = 1
	}
	if kind == api.OpTerm {
		o.Inputs, o.Var, o.Type = 1, "a", pick(w.Rand, "A", "A", "B")
		o.Tests = pick(w.Rand, nil, conds(w.t, "x > 0"), conds(w.t, "x < 2, y = \"v\""))
	}
	return o
}

// fed is what comes next on an input of an operator, mostly such that something comes of it.
func (w world) fed(o api.Op, input int) api.Partial {
	if (o.Kind == api.OpTerm) != (w.IntN(40) == 0) {
		return raw(w.event())
	}
	switch w.IntN(12) {
	case 0:
		return w.partial(1+w.IntN(3), letters(6)...)
	case 1:
		return w.partial(w.IntN(2), letters(4)...)
	case 2:
		return w.partial(2, letters(4)...)
	}
	return w.partial(1+w.IntN(2), letters(5)[input:]...)
}

// next is the mark that comes next on an input: mostly one that may come.
func (w world) next(at int64) int64 {
	switch w.IntN(40) {
	case 0:
		return pick[int64](w.Rand, -1, maxTime, forever, forever+1)
	case 1, 2:
		return at - 1
	case 3, 4:
		return at
	}
	return min(at+w.Int64N(4), forever)
}

// counted counts how often each answer comes, so that none is left out.
type counted map[api.Errno]int

func (n counted) many(t *testing.T, least int, of ...api.Errno) {
	t.Helper()
	for _, err := range of {
		if n[err] < least {
			t.Errorf("error %d came only %d times: %v", err, n[err], n)
		}
	}
}

// pair is an operator with its model: both go the same way.
type pair struct {
	x    *oper.Oper
	m    *model
	last int // how many came out last
}

func newPair(t testing.TB, o api.Op) *pair {
	t.Helper()
	return &pair{x: made(t, o), m: newModel(o)}
}

// feed feeds both, and asks for the same; it tells the error.
func (o *pair) feed(t testing.TB, input int, p api.Partial) api.Errno {
	t.Helper()
	was := o.m.state()
	want, wantErr := o.m.feed(input, p)
	l, err := o.x.Feed(input, p)
	if err != wantErr || !slices.EqualFunc(l, want, alike) || err != api.OK && l != nil {
		t.Fatalf("%v: %s on %d: error %d, %s, not error %d, %s", o.m.o, shown(p), input, err, shownAll(l), wantErr, shownAll(want))
	}
	if err != api.OK && string(snapshot(t, o.x)) != string(packed(was)) {
		t.Fatalf("%v: %s on %d: changed with an error", o.m.o, shown(p), input)
	}
	o.last = len(l)
	return err
}

// mark marks both, likewise.
func (o *pair) mark(t testing.TB, input int, time int64) api.Errno {
	t.Helper()
	want, wantRose, wantErr := o.m.mark(input, time)
	merged, rose, err := o.x.Mark(input, time)
	if merged != want || rose != wantRose || err != wantErr {
		t.Fatalf("%v: %d on %d: %d, %v, error %d, not %d, %v, error %d", o.m.o, time, input, merged, rose, err, want, wantRose, wantErr)
	}
	wantModel(t, o.x, o.m)
	return err
}
