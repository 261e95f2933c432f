package water_test

import (
	"math"
	"slices"
	"testing"

	"eyrie/api"
	"eyrie/water"
)

func TestExample(t *testing.T) {
	w := made(t, 2)
	if rose, err := w.Mark(0, 9); rose || err != api.OK {
		t.Errorf("Mark(0, 9): %v, error %d", rose, err)
	}
	if rose, err := w.Mark(1, 4); !rose || err != api.OK {
		t.Errorf("Mark(1, 4): %v, error %d", rose, err)
	}
	if w.Merged() != 4 || w.Horizon(3) != 1 || !w.Late(1, 3) {
		t.Errorf("Merged %d, Horizon %d, Late %v", w.Merged(), w.Horizon(3), w.Late(1, 3))
	}
	if rose, err := w.Mark(1, 3); rose || err != api.ErrMark {
		t.Errorf("Mark(1, 3): %v, error %d", rose, err)
	}
	if rose, err := w.Mark(1, api.Forever); !rose || err != api.OK || w.Merged() != 9 {
		t.Errorf("Mark(1, Forever): %v, error %d: Merged %d", rose, err, w.Merged())
	}
}

// P12.1

func TestNew(t *testing.T) {
	for _, n := range []int{0, -1, -2, -mostInputs, math.MinInt, mostInputs + 1, mostInputs + 2, 100, 256, 1 << 32, 1<<32 + 1, math.MaxInt} {
		if w, err := water.New(n); err != api.ErrArg || w != nil {
			t.Errorf("New(%d): error %d", n, err)
		}
	}
	for n := 1; n <= mostInputs; n++ {
		wantWater(t, made(t, n), make(model, n))
	}
	a, b := made(t, 2), made(t, 2)
	wantMark(t, a, model{0, 0}, 0, 5)
	wantWater(t, b, model{0, 0})
}

func TestFrom(t *testing.T) {
	for n := 1; n <= 3; n++ {
		every(n, marks(), func(m model) { wantWater(t, from(t, m...), m) })
	}
	r := dice()
	for range 2000 {
		m := make(model, 1+r.IntN(mostInputs))
		for i := range m {
			m[i] = r.Int64N(forever+1) >> r.IntN(41)
		}
		wantWater(t, from(t, m...), m)
	}
	// as many as may be, each another one, so that none is taken for its neighbour
	rising := model{1, 2, 3, 4, 5, 6, 7, 8, 9, 10, 11, 12}
	wantWater(t, from(t, rising...), rising)
	slices.Reverse(rising)
	wantWater(t, from(t, rising...), rising)
	last := append(slices.Repeat(model{forever}, mostInputs-1), 7)
	wantWater(t, from(t, last...), last)
}

func TestFromRefuses(t *testing.T) {
	refuse := func(l ...int64) {
		t.Helper()
		if w, err := water.From(l...); err != api.ErrArg || w != nil {
			t.Errorf("From of %d marks: error %d", len(l), err)
		}
	}
	refuse()
	refuse([]int64{}...)
	for _, n := range []int{mostInputs + 1, mostInputs + 2, 2 * mostInputs, 256, 1 << 16, 1 << 20} {
		refuse(make([]int64, n)...)
		refuse(slices.Repeat([]int64{-1}, n)...)
	}
	for n := 1; n <= mostInputs; n++ {
		for at := range n {
			for _, bad := range noMarks() {
				l := make([]int64, n)
				l[at] = bad
				refuse(l...)
				l = slices.Repeat([]int64{forever}, n)
				l[at] = bad
				refuse(l...)
			}
		}
	}
}

// P12.2

func TestMark(t *testing.T) {
	asked := 0
	for n := 1; n <= 3; n++ {
		every(n, marks(), func(m model) {
			for i := range n {
				for _, mark := range marks() {
					w := from(t, m...)
					wantWater(t, w, wantMark(t, w, m, i, mark))
					asked++
				}
			}
		})
	}
	if asked != 7*7+2*7*7*7+3*7*7*7*7 {
		t.Errorf("%d marks were asked for", asked)
	}
}

// Merged rises by the mark of the last input that stood at it alone.
func TestMarkRises(t *testing.T) {
	for n := 1; n <= mostInputs; n++ {
		w := made(t, n)
		for _, mark := range []int64{1, 2, 7, 7, maxTime, forever, forever} {
			before := w.Merged()
			for i := range n {
				rose, err := w.Mark(i, mark)
				want := i == n-1 && mark > before
				if err != api.OK || rose != want || w.At(i) != mark || (w.Merged() == mark) != (i == n-1 || mark == before) {
					t.Fatalf("%d of %d inputs to %d: %v, error %d: Merged %d", i+1, n, mark, rose, err, w.Merged())
				}
			}
		}
		if !w.Done() {
			t.Errorf("%d inputs at Forever are not at an end", n)
		}
	}
}

// What is refused changes nothing; ErrArg comes ahead of ErrMark.
func TestMarkRefuses(t *testing.T) {
	for _, m := range []model{{0}, {5}, {forever}, {5, 9}, {9, 0, forever}, {1, 2, 3, 4, 5, 6, 7, 8, 9, 10, 11, 12}} {
		w := from(t, m...)
		refuse := func(input int, mark int64, want api.Errno) {
			t.Helper()
			if rose, err := w.Mark(input, mark); rose || err != want {
				t.Errorf("%v: Mark(%d, %d): %v, error %d, not %d", m, input, mark, rose, err, want)
			}
		}
		for _, i := range append(noInputs(), len(m), len(m)+1) {
			for _, mark := range times() {
				refuse(i, mark, api.ErrArg)
			}
		}
		for i, was := range m {
			for _, mark := range noMarks() {
				refuse(i, mark, api.ErrArg)
			}
			for _, mark := range marks() {
				if mark < was {
					refuse(i, mark, api.ErrMark)
				}
			}
			if was > 0 {
				refuse(i, was-1, api.ErrMark)
			}
		}
		wantWater(t, w, m)
	}
}

func TestDone(t *testing.T) {
	for _, c := range []struct {
		marks model
		want  bool
	}{{model{0}, false}, {model{maxTime}, false}, {model{forever}, true}, {model{forever, maxTime}, false}, {model{maxTime, forever}, false}, {model{forever, 0, forever}, false}, {model{forever, forever, forever}, true}, {slices.Repeat(model{forever}, mostInputs), true}} {
		if got := from(t, c.marks...).Done(); got != c.want {
			t.Errorf("%v: %v", c.marks, got)
		}
	}
}

// P12.3

func TestLate(t *testing.T) {
	w := from(t, 5, 0, forever)
	for _, c := range []struct {
		input int
		end   int64
		want  bool
	}{
		{0, 4, true}, {0, 5, false}, {0, 6, false}, {0, -1, true}, {0, 0, true}, {0, math.MinInt64, true}, {0, math.MaxInt64, false},
		{1, 0, false}, {1, -1, true}, {2, maxTime, true}, {2, forever, false}, {2, forever + 1, false},
		{3, -1, true}, {3, 0, false}, {3, 1, false}, {-1, -1, true}, {-1, 0, false}, {-1, 4, false},
		{math.MaxInt, -1, true}, {math.MaxInt, 0, false}, {math.MinInt, math.MinInt64, true}, {math.MinInt, math.MaxInt64, false},
	} {
		if got := w.Late(c.input, c.end); got != c.want {
			t.Errorf("Late(%d, %d): %v", c.input, c.end, got)
		}
	}
}

func TestHorizon(t *testing.T) {
	for _, c := range []struct {
		merged, window, want int64
	}{
		{0, 0, 0}, {0, 1, 0}, {0, -1, 0}, {9, 0, 9}, {9, 1, 8}, {9, 8, 1}, {9, 9, 0}, {9, 10, 0}, {9, -1, 0}, {9, math.MaxInt64, 0}, {9, math.MinInt64, 0},
		{maxTime, 0, maxTime}, {maxTime, 1, maxTime - 1}, {maxTime, maxTime, 0}, {maxTime, forever, 0}, {maxTime, math.MinInt64, 0}, {maxTime, math.MaxInt64, 0},
		{forever, 0, forever}, {forever, 1, forever}, {forever, -1, forever}, {forever, maxTime, forever}, {forever, forever, forever}, {forever, math.MinInt64, forever}, {forever, math.MaxInt64, forever},
	} {
		for n := 1; n <= mostInputs; n++ {
			l := slices.Repeat([]int64{forever}, n)
			for at := range n {
				l[at] = c.merged
				if got := from(t, l...).Horizon(c.window); got != c.want {
					t.Errorf("%v: Horizon(%d) %d, not %d", l, c.window, got, c.want)
				}
			}
		}
	}
}

func TestCloneGoesItsOwnWay(t *testing.T) {
	for n := 1; n <= mostInputs; n++ {
		m := make(model, n)
		for i := range m {
			m[i] = int64(i + 3)
		}
		w := from(t, m...)
		c := w.Clone()
		wantWater(t, c, m)
		if c == w || !water.Same(c, w) {
			t.Errorf("%v: the clone is another one, or none", m)
		}
		for i := range n {
			x, y := w.Clone(), w.Clone()
			wantWater(t, x, wantMark(t, x, m, i, forever))
			wantWater(t, y, m)
			wantWater(t, y, wantMark(t, y, m, i, 100))
			wantWater(t, x, wantMark(t, x, model(x.Marks()), i, forever))
		}
		wantWater(t, w, m)
		wantMark(t, w, m, 0, 50)
		wantWater(t, c, m)
	}
}

func TestSame(t *testing.T) {
	var all []model
	for n := 1; n <= 3; n++ {
		every(n, []int64{0, 1, 5, forever}, func(m model) { all = append(all, m) })
	}
	for _, a := range all {
		for _, b := range all {
			if got := water.Same(from(t, a...), from(t, b...)); got != slices.Equal(a, b) {
				t.Fatalf("Same of %v and %v: %v", a, b, got)
			}
		}
	}
	for n := 1; n <= mostInputs; n++ {
		for k := 1; k <= mostInputs; k++ {
			if got := water.Same(made(t, n), made(t, k)); got != (n == k) {
				t.Errorf("Same of %d and %d inputs: %v", n, k, got)
			}
		}
		w, o := made(t, n), made(t, n)
		wantMark(t, w, make(model, n), n-1, 4)
		if water.Same(w, o) || water.Same(o, w) || !water.Same(w, w) {
			t.Errorf("%d inputs: the last mark says nothing", n)
		}
	}
	// it is the marks that count, not the way to them
	w := made(t, 2)
	for _, mark := range []int64{1, 1, 3, 8} {
		w.Mark(1, mark)
		w.Mark(1, 0)
		w.Mark(2, mark)
	}
	if !water.Same(w, from(t, 0, 8)) || !water.Same(from(t, 0, 8), w) || water.Same(w, from(t, 8, 0)) {
		t.Error("the way to the marks counts, or their order does not")
	}
}

// R5

func TestNotMade(t *testing.T) {
	var zero water.Water
	for _, w := range []*water.Water{nil, &zero} {
		for _, i := range append(noInputs(), 0, 1, 11) {
			for _, mark := range times() {
				if rose, err := w.Mark(i, mark); rose || err != api.ErrMade {
					t.Errorf("Mark(%d, %d): %v, error %d", i, mark, rose, err)
				}
				if w.Late(i, mark) || w.Horizon(mark) != 0 {
					t.Errorf("Late(%d, %d) %v, Horizon %d", i, mark, w.Late(i, mark), w.Horizon(mark))
				}
			}
			if w.At(i) != 0 {
				t.Errorf("At(%d): %d", i, w.At(i))
			}
		}
		if w.Merged() != 0 || w.Marks() != nil || w.Done() || w.Clone() != nil {
			t.Errorf("Merged %d, Marks %v, Done %v", w.Merged(), w.Marks(), w.Done())
		}
		for _, o := range []*water.Water{nil, &zero, {}, made(t, 1), made(t, mostInputs)} {
			if water.Same(w, o) || water.Same(o, w) {
				t.Error("what no call made is the same")
			}
		}
	}
	if zero != (water.Water{}) {
		t.Error("what no call made was changed")
	}
}

// R3

func TestMemory(t *testing.T) {
	l := make([]int64, 5, 20)
	copy(l, []int64{3, 1, 4, 1, 5})
	m := model{3, 1, 4, 1, 5}
	w := from(t, l...)
	if !slices.Equal(l[:cap(l)], append(slices.Clone(m), make([]int64, 15)...)) {
		t.Errorf("written to: %v", l[:cap(l)])
	}
	for i := range l {
		l[i] = 99
	}
	wantWater(t, w, m)
	a, b, c := w.Marks(), w.Marks(), w.Clone()
	for i := range a {
		a[i] = 77
	}
	_ = append(a[:0], 6, 6, 6, 6, 6, 6, 6, 6)
	if !slices.Equal(b, m) {
		t.Errorf("two answers share memory: %v", b)
	}
	wantWater(t, w, m)
	wantWater(t, c, m)
	w.Mark(1, 2)
	if !slices.Equal(b, m) {
		t.Errorf("an answer changes: %v", b)
	}
	whole := from(t, 1, 2, 3, 4, 5, 6, 7, 8, 9, 10, 11, 12)
	whole.Marks()[0] = 100
	wantWater(t, whole, model{1, 2, 3, 4, 5, 6, 7, 8, 9, 10, 11, 12})
}
