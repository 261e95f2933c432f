package water_test

import (
	"math/rand/v2"
	"testing"

	"eyrie/api"
	"eyrie/water"
)

// P12.4

// levels are what never falls.
type levels struct {
	merged  int64
	at      [mostInputs]int64
	horizon []int64
}

func levelsOf(w *water.Water) levels {
	l := levels{merged: w.Merged()}
	for i := range l.at {
		l.at[i] = w.At(i)
	}
	for _, window := range times() {
		l.horizon = append(l.horizon, w.Horizon(window))
	}
	return l
}

// fell tells whether something is lower than it was.
func (l levels) fell(was levels) bool {
	for i := range l.at {
		if l.at[i] < was.at[i] {
			return true
		}
	}
	for i := range l.horizon {
		if l.horizon[i] < was.horizon[i] {
			return true
		}
	}
	return l.merged < was.merged
}

// nextMark is mostly a mark that may come next on an input.
func nextMark(r *rand.Rand, at int64) int64 {
	switch r.IntN(20) {
	case 0:
		return times()[r.IntN(len(times()))]
	case 1, 2, 3, 4:
		return at - r.Int64N(3)
	case 5:
		return r.Int64N(forever + 1)
	}
	return min(at+r.Int64N(6), forever)
}

func TestNeverFalls(t *testing.T) {
	r := dice()
	rises, stays, refused := 0, 0, 0
	for range 400 {
		m := make(model, 1+r.IntN(mostInputs))
		w := made(t, len(m))
		was := levelsOf(w)
		for range 150 {
			i := r.IntN(len(m)+2) - 1
			mark := nextMark(r, m.at(i))
			n, rose, err := m.mark(i, mark)
			if got, gotErr := w.Mark(i, mark); got != rose || gotErr != err {
				t.Fatalf("%v: Mark(%d, %d): %v, error %d, not %v, error %d", m, i, mark, got, gotErr, rose, err)
			}
			now := levelsOf(w)
			if now.fell(was) || (now.merged > was.merged) != rose {
				t.Fatalf("%v: behind Mark(%d, %d): %v, not %v", m, i, mark, now, was)
			}
			switch {
			case err != api.OK:
				refused++
			case rose:
				rises++
			default:
				stays++
			}
			m, was = n, now
			if r.IntN(10) == 0 {
				wantWater(t, w, m)
				w = w.Clone()
			}
		}
	}
	if rises < 1000 || stays < 1000 || refused < 1000 {
		t.Errorf("%d rose, %d stayed, %d were refused", rises, stays, refused)
	}
}

// The same calls answer the same.
func TestAgain(t *testing.T) {
	r := dice()
	for range 200 {
		n := 1 + r.IntN(mostInputs)
		a, b := made(t, n), made(t, n)
		for range 60 {
			i, mark := r.IntN(n), r.Int64N(forever+1)>>r.IntN(41)
			rose, err := a.Mark(i, mark)
			if again, errAgain := b.Mark(i, mark); again != rose || errAgain != err || !water.Same(a, b) {
				t.Fatalf("Mark(%d, %d): %v, error %d, then %v, error %d", i, mark, rose, err, again, errAgain)
			}
		}
	}
}

// P12.5

// comes tells whether something that ends then may come on some input.
func comes(m model, end int64) bool {
	for _, mark := range m {
		if end >= mark && end <= maxTime {
			return true
		}
	}
	return false
}

// What began below the horizon spans more than the window with all that comes later; what began at it does not with all.
func TestWhatCanBeLetGo(t *testing.T) {
	small := []int64{0, 1, 2, 3, 5, 8}
	at := func(l ...int64) []int64 {
		var all []int64
		for _, v := range l {
			all = append(all, v, maxTime-v)
		}
		return all
	}
	gone := 0
	for n := 1; n <= 3; n++ {
		every(n, append(at(0, 1, 4), small[1:]...), func(m model) {
			w := from(t, m...)
			for _, window := range append(at(small...), 4, forever, -1) {
				h := w.Horizon(window)
				for _, begin := range at(small...) {
					for _, end := range append(at(small...), m...) {
						if begin < h && comes(m, end) {
							gone++
							if end-begin <= window {
								t.Fatalf("%v: Horizon(%d) %d: what began at %d is let go, and %d comes", m, window, h, begin, end)
							}
						}
					}
				}
				if h > 0 && h < forever && w.Merged()-h > window {
					t.Fatalf("%v: Horizon(%d) %d: what began there spans %d with all that comes", m, window, h, w.Merged()-h)
				}
			}
		})
	}
	if gone < 10000 {
		t.Errorf("%d were let go", gone)
	}
}

// Nothing comes any more behind the end: so that all can be let go.
func TestAllCanBeLetGo(t *testing.T) {
	for n := 1; n <= mostInputs; n++ {
		w := made(t, n)
		for i := range n {
			w.Mark(i, forever)
		}
		for _, window := range times() {
			if w.Horizon(window) != forever {
				t.Errorf("Horizon(%d) %d", window, w.Horizon(window))
			}
		}
		for i := range n {
			for _, end := range []int64{0, 1, 5, maxTime - 1, maxTime} {
				if !w.Late(i, end) {
					t.Errorf("input %d of %d: what ends at %d may come", i, n, end)
				}
			}
		}
	}
}

// thing is what has come on an input.
type thing struct{ begin, end int64 }

// Things come by chance, each on an input for which it is not late, and marks rise between them.
func TestWhatCanBeLetGoByChance(t *testing.T) {
	r := dice()
	gone, put := 0, 0
	for range 300 {
		n, window := 1+r.IntN(4), r.Int64N(12)
		w := made(t, n)
		var came []thing
		for range 80 {
			i := r.IntN(n)
			if r.IntN(2) == 0 {
				w.Mark(i, w.At(i)+r.Int64N(4))
				continue
			}
			end := max(w.At(i)+r.Int64N(5)-1, 0)
			x := thing{begin: max(end-r.Int64N(6), 0), end: end}
			if w.Late(i, x.end) {
				continue
			}
			for _, o := range came {
				span := max(x.end, o.end) - min(x.begin, o.begin)
				if o.begin >= w.Horizon(window) {
					put++
				} else if gone++; span <= window {
					t.Fatalf("%v within %d: %v was let go, and %v comes", w.Marks(), window, o, x)
				}
			}
			came = append(came, x)
		}
	}
	if gone < 10000 || put < 10000 {
		t.Errorf("%d were let go, %d were not", gone, put)
	}
}
