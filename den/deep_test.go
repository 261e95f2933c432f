package den_test

import (
	"testing"
	"time"

	"eyrie/api"
	"eyrie/check"
	"eyrie/den"
)

// THE BOUND: lists and trees far greater than may be are refused in near-linear time; what joins partials takes no longer than the ways to take one of each.

// soon fails, if something takes far longer than that.
func soon(t *testing.T, what string, f func()) {
	t.Helper()
	begin := time.Now()
	f()
	if d := time.Since(begin); d > 20*time.Second {
		t.Errorf("%s: %v", what, d)
	}
}

// Each kid has about as many partials as may be, but hardly any two of them go together.
func TestManyWays(t *testing.T) {
	var kids []api.Node
	for i, l := 0, terms(12, "A"); i < 12; i += 2 {
		kids = append(kids, and(l[i], l[i+1]))
	}
	soon(t, "seqs of what is at one time", func() {
		for range 20 {
			wantMany(t, seq(kids...), at(9, many("A", 64, 0)), 0)
			wantNodeErr(t, and(kids...), at(9, many("A", 64, 0)), api.ErrFull)
		}
	})
	// a kid of 64 events at three of its variables: 60 and 2 and 2
	soon(t, "ands of what has events in common", func() {
		for range 20 {
			l := many("A", 62, 0)
			l = append(l, ev(62, "B", 62), ev(63, "C", 63))
			x, y := tree(t, "A as a & B as b | A as c & B as d | A as e & B as f | A as g & B as h"), tree(t, "A as i & B as j | A as k & B as l")
			wantMany(t, and(x, y), l, 0)
			wantMany(t, or(x, y), l, 6*62)
		}
	})
	l := many("A", 16, 0)
	for i := range l {
		for _, name := range letters(api.MaxAttrs) {
			l[i].Attrs = append(l[i].Attrs, attr(name, str("0123456789012345678901234567890123456789012345678901234567890123")))
		}
	}
	soon(t, "as many partials as may be", func() {
		// in turn, all but two or three of 14
		wantMany(t, seq(terms(12, "A")...), l[:14], 14*13/2)
		wantMany(t, seq(terms(11, "A")...), l[:14], 14*13*12/6)
		kids := terms(12, "A", "A", "B", "C", "D", "E", "F", "G", "H", "I", "J", "K")
		for i := range 64 - len(l) {
			l = append(l, l[0])
			e := &l[len(l)-1]
			e.ID.Seq, e.Type = int64(100+i), string(rune('A'+max(0, i-37)))
		}
		wantMany(t, and(kids...), l, 54*53)
	})
}

func TestGreatLists(t *testing.T) {
	n := tree(t, "A as a ; B as b")
	p := pattern(t, "pattern p within 5 : A as a ; B as b")
	const great = 1 << 20
	l := many("A", great, 0)
	for i := range l {
		l[i].ID.Source = 0
	}
	m := api.Partial{}
	for _, e := range l {
		m.Bounds = append(m.Bounds, bound("a", e))
	}
	soon(t, "great lists", func() {
		wantNodeErr(t, n, l[:1<<10], api.ErrLong)
		if _, err := den.Node(n, l...); err != api.ErrLong {
			t.Errorf("error %d", err)
		}
		if _, err := den.All(p, l...); err != api.ErrLong || den.Many(p, l...) != 0 {
			t.Errorf("error %d", err)
		}
		if den.Fits(n, m) || den.Is(p, m) || den.Within(p, m) {
			t.Error("it may be")
		}
		p.Window = great - 1
		if !den.Within(p, m) {
			t.Error("not within")
		}
	})
	wide := seq(make([]api.Node, great)...)
	for i := range wide.Kids {
		wide.Kids[i] = term("A", "a")
	}
	conds := make([]api.Cond, great)
	soon(t, "great trees", func() {
		for _, n := range []api.Node{wide, term("A", "a", conds...), seq(term("A", "a"), wide)} {
			want := check.Shape(n)
			p := api.Pattern{Name: "p", Window: 1, Root: n, Where: conds}
			if _, err := den.Node(n, l[:3]...); err == api.OK || err != want {
				t.Errorf("error %d, not %d", err, want)
			}
			if _, err := den.All(p, l[:3]...); err != want || den.Many(p, l[:3]...) != 0 {
				t.Errorf("error %d, not %d", err, want)
			}
			if den.Fits(n, m) || den.Is(p, m) {
				t.Error("it may be")
			}
		}
	})
}

// Kids that hold themselves have no end, but each call has one.
func TestKidsThatHoldThemselves(t *testing.T) {
	for _, kind := range []int{api.NdSeq, api.NdAnd, api.NdOr} {
		kids := terms(2, "A")
		kids[1] = node(kind, kids...)
		p := api.Pattern{Name: "p", Window: 1, Root: kids[1]}
		l := many("A", 3, 0)
		m := partial(bound("a", l[0]), bound("b", l[1]))
		if _, err := den.Node(p.Root, l...); err != api.ErrDeep {
			t.Errorf("Node: error %d", err)
		}
		if _, err := den.All(p, l...); err != api.ErrDeep || den.Many(p, l...) != 0 || len(listed(p, l)) != 0 {
			t.Errorf("All: error %d", err)
		}
		if den.Fits(p.Root, m) || den.Is(p, m) {
			t.Error("it may be")
		}
		kids[1].Kids = nil
	}
}
