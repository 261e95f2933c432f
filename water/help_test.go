package water_test

import (
	"math"
	"math/rand/v2"
	"slices"
	"testing"

	"eyrie/api"
	"eyrie/water"
)

// The chapter's numbers, written anew.
const (
	mostInputs = 12
	maxTime    = 1 << 40
	forever    = maxTime + 1
)

// dice are the same at each run.
func dice() *rand.Rand { return rand.New(rand.NewPCG(120, 121)) }

func made(t *testing.T, inputs int) *water.Water {
	t.Helper()
	w, err := water.New(inputs)
	if err != api.OK || w == nil {
		t.Fatalf("New(%d): error %d", inputs, err)
	}
	return w
}

func from(t *testing.T, marks ...int64) *water.Water {
	t.Helper()
	w, err := water.From(marks...)
	if err != api.OK || w == nil {
		t.Fatalf("From(%v): error %d", marks, err)
	}
	return w
}

// noInputs are numbers that are none of any input.
func noInputs() []int {
	return []int{-1, -2, -mostInputs, math.MinInt, math.MinInt + 1, mostInputs, mostInputs + 1, 100, 256, 1 << 32, 1<<32 + 1, math.MaxInt}
}

// marks are marks that may be, the edges among them.
func marks() []int64 { return []int64{0, 1, 2, 5, maxTime - 1, maxTime, forever} }

// noMarks are times that are no marks.
func noMarks() []int64 {
	return []int64{-1, -2, -maxTime, -forever, math.MinInt64, math.MinInt64 + 1, forever + 1, 1 << 41, 1<<63 - 1 - forever, math.MaxInt64}
}

// times are marks and others.
func times() []int64 { return slices.Concat(marks(), []int64{3, 4, 6, forever - 5}, noMarks()) }

// model is the marks of inputs, of which the chapter's words tell all.
type model []int64

func (m model) merged() int64 { return slices.Sorted(slices.Values(m))[0] }

func (m model) at(input int) int64 {
	for i, t := range m {
		if i == input {
			return t
		}
	}
	return 0
}

func (m model) horizon(window int64) int64 {
	least := m.merged()
	if least == forever {
		return forever
	}
	if window < 0 || window > least {
		return 0
	}
	return least - window
}

// mark is what Mark should answer, and the marks behind it.
func (m model) mark(input int, t int64) (model, bool, api.Errno) {
	if input < 0 || input >= len(m) || t < 0 || t > forever {
		return m, false, api.ErrArg
	}
	if t < m[input] {
		return m, false, api.ErrMark
	}
	n := slices.Clone(m)
	n[input] = t
	return n, n.merged() > m.merged(), api.OK
}

// wantWater asks for all that the chapter tells of inputs with these marks.
func wantWater(t *testing.T, w *water.Water, m model) {
	t.Helper()
	if got := w.Marks(); !slices.Equal(got, m) {
		t.Fatalf("%v: Marks %v", m, got)
	}
	if got := w.Merged(); got != m.merged() {
		t.Fatalf("%v: Merged %d", m, got)
	}
	if got := w.Done(); got != (m.merged() == forever) {
		t.Fatalf("%v: Done %v", m, got)
	}
	for i := -1; i <= mostInputs; i++ {
		wantInput(t, w, m, i)
	}
	for _, i := range noInputs() {
		wantInput(t, w, m, i)
	}
	for _, window := range append(times(), m.merged(), m.merged()+1, m.merged()-1) {
		if got := w.Horizon(window); got != m.horizon(window) {
			t.Fatalf("%v: Horizon(%d) %d, not %d", m, window, got, m.horizon(window))
		}
	}
}

func wantInput(t *testing.T, w *water.Water, m model, input int) {
	t.Helper()
	mark := m.at(input)
	if got := w.At(input); got != mark {
		t.Fatalf("%v: At(%d) %d", m, input, got)
	}
	for _, end := range append(times(), mark-1, mark, mark+1) {
		if got := w.Late(input, end); got != (end < mark) {
			t.Fatalf("%v: Late(%d, %d) %v", m, input, end, got)
		}
	}
}

// wantMark asks Mark for what the chapter says; it tells the marks behind it.
func wantMark(t *testing.T, w *water.Water, m model, input int, mark int64) model {
	t.Helper()
	n, rose, want := m.mark(input, mark)
	if got, err := w.Mark(input, mark); got != rose || err != want {
		t.Fatalf("%v: Mark(%d, %d): %v, error %d, not %v, error %d", m, input, mark, got, err, rose, want)
	}
	return n
}

// every goes through all ways to give marks out of l to so many inputs.
func every(inputs int, l []int64, tell func(model)) {
	m := make(model, inputs)
	var choose func(at int)
	choose = func(at int) {
		if at == inputs {
			tell(slices.Clone(m))
			return
		}
		for _, m[at] = range l {
			choose(at + 1)
		}
	}
	choose(0)
}
