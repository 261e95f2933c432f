package normal_test

import (
	"math"
	"math/rand/v2"
	"testing"

	"eyrie/api"
	"eyrie/normal"
)

// P8.1

// wantOrder asks for trees of which each is less than all behind it.
func wantOrder(t *testing.T, l ...api.Node) {
	t.Helper()
	for i, a := range l {
		for j, b := range l {
			want := 0
			if i < j {
				want = -1
			}
			if i > j {
				want = 1
			}
			if got := normal.Compare(a, b); got != want {
				t.Errorf("%.500s and %.500s: %d, not %d", shown(a), shown(b), got, want)
			}
			// and as a kid, ahead of which all is the same
			if got := normal.Compare(seq(of("a"), a, of("z")), seq(of("a"), b, of("y"))); want != 0 && got != want {
				t.Errorf("%.500s and %.500s as kids: %d, not %d", shown(a), shown(b), got, want)
			}
		}
	}
}

// sets are the fields of a node in the order in which they count, each as what puts it to another value: less of 0 than of 1.
func sets() []func(n *api.Node, i int) {
	words := []string{"a", "b"}
	l := []func(n *api.Node, i int){
		func(n *api.Node, i int) { n.Kind = 1 + i },
		func(n *api.Node, i int) { n.Type = words[i] },
		func(n *api.Node, i int) { n.Var = words[i] },
	}
	for _, test := range []int{0, 1} {
		left := func(n *api.Node) *api.Operand { return &n.Tests[test].Left }
		right := func(n *api.Node) *api.Operand { return &n.Tests[test].Right }
		l = append(l, side(left)...)
		l = append(l, func(n *api.Node, i int) { n.Tests[test].Rel = 1 + i })
		l = append(l, side(right)...)
	}
	for _, kid := range []int{0, 1} {
		l = append(l, func(n *api.Node, i int) { n.Kids[kid].Kind = 1 + i })
		l = append(l, func(n *api.Node, i int) { n.Kids[kid].Var = words[i] })
		l = append(l, func(n *api.Node, i int) { n.Kids[kid].Kids[0].Type = words[i] })
	}
	return l
}

func side(of func(n *api.Node) *api.Operand) []func(n *api.Node, i int) {
	words := []string{"a", "b"}
	return []func(n *api.Node, i int){
		func(n *api.Node, i int) { of(n).Var = words[i] },
		func(n *api.Node, i int) { of(n).Attr = words[i] },
		func(n *api.Node, i int) { of(n).Value.Kind = i },
		func(n *api.Node, i int) { of(n).Value.N = int64(i) },
		func(n *api.Node, i int) { of(n).Value.S = words[i] },
	}
}

// blank is a node that has all fields.
func blank() api.Node {
	return api.Node{Tests: make([]api.Cond, 2), Kids: []api.Node{seq(api.Node{}), seq(api.Node{})}}
}

func TestCompareFieldByField(t *testing.T) {
	fields := sets()
	for i, set := range fields {
		a, b := blank(), blank()
		set(&a, 0)
		set(&b, 1)
		wantOrder(t, a, b)
		// whatever stands in those that count less
		for _, less := range fields[i+1:] {
			a, b := blank(), blank()
			set(&a, 0)
			less(&a, 1)
			set(&b, 1)
			less(&b, 0)
			wantOrder(t, a, b)
			// they count, where the first is the same
			set(&b, 0)
			wantOrder(t, b, a)
		}
	}
}

func TestCompareFields(t *testing.T) {
	var l []api.Node
	for _, kind := range []int{math.MinInt, -1, 0, 1, 2, 3, 4, 5, math.MaxInt} {
		l = append(l, api.Node{Kind: kind})
	}
	wantOrder(t, l...)
	words := []string{"", "\x00", "A", "AA", "B", "_", "a", "é", "\xff"}
	l = nil
	var vars, attrs, values []api.Node
	for _, s := range words {
		l = append(l, term(s, "v"))
		vars = append(vars, term("T", s))
		attrs = append(attrs, term("T", "v", cond(attr("", "x"), 1, attr("", s))))
		values = append(values, term("T", "v", cond(api.Operand{Value: api.Value{S: s}}, 1, num(1))))
	}
	wantOrder(t, l...)
	wantOrder(t, vars...)
	wantOrder(t, attrs...)
	wantOrder(t, values...)
	l = nil
	for _, n := range []int64{math.MinInt64, -1 << 40, -1, 0, 1, 1 << 40, math.MaxInt64} {
		l = append(l, term("T", "v", test(n)))
	}
	wantOrder(t, l...)
}

// A value's fields count one by one, whatever its Kind says of them.
func TestCompareValues(t *testing.T) {
	var l []api.Node
	for _, kind := range []int{-1, 0, api.VInt, api.VStr, 3} {
		for _, n := range []int64{-1, 0, 1} {
			for _, s := range []string{"", "a"} {
				l = append(l, term("T", "v", cond(api.Operand{Value: api.Value{Kind: kind, N: n, S: s}}, 1, attr("", "x"))))
			}
		}
	}
	wantOrder(t, l...)
}

func TestCompareBeginnings(t *testing.T) {
	a, b := test(1), test(2)
	wantOrder(t, term("T", "v"), term("T", "v", a), term("T", "v", a, a), term("T", "v", a, b), term("T", "v", b), term("T", "v", b, a))
	wantOrder(t, seq(), seq(of("a")), seq(of("a"), of("a")), seq(of("a"), of("b")), seq(of("b")), seq(of("b"), of("a")))
	// Tests count ahead of Kids
	more, less := seq(of("a"), of("b")), seq(of("a"))
	less.Tests = []api.Cond{a}
	wantOrder(t, more, less)
	// a kid that begins as another one
	wantOrder(t, seq(seq(of("a")), of("b")), seq(seq(of("a"), of("a"))), seq(seq(of("a"), of("a")), of("a")))
	// a kid's first field counts ahead of how many there are
	wantOrder(t, seq(of("a"), of("a"), of("a")), seq(seq()), seq(and()), seq(and(), and()))
}

func TestCompareEmptyLists(t *testing.T) {
	a, b := of("a"), of("a")
	b.Tests, b.Kids = []api.Cond{}, []api.Node{}
	for _, x := range [][2]api.Node{{a, b}, {b, a}, {seq(a), seq(b)}, {and(b, a), and(a, b)}, {{}, {Kids: []api.Node{}}}} {
		if got := normal.Compare(x[0], x[1]); got != 0 {
			t.Errorf("%s and %s: %d", shown(x[0]), shown(x[1]), got)
		}
	}
}

func TestCompareIsAnOrder(t *testing.T) {
	r := dice()
	var seen [3]int
	some := func(r *rand.Rand) api.Node {
		if r.IntN(2) == 0 {
			return someTree(r, 1+r.IntN(6), names(2))
		}
		return anyTree(r, 1+r.IntN(5), []string{"", "x"})
	}
	for range 30000 {
		a, b, c := some(r), some(r), some(r)
		ab, bc, ac := normal.Compare(a, b), normal.Compare(b, c), normal.Compare(a, c)
		if want := modelCompare(a, b); ab != want {
			t.Fatalf("%s and %s: %d, not %d", shown(a), shown(b), ab, want)
		}
		if (ab == 0) != alike(a, b) {
			t.Fatalf("%s and %s: %d", shown(a), shown(b), ab)
		}
		seen[1+ab]++
		if turned := normal.Compare(b, a); turned != -ab {
			t.Fatalf("%s and %s: %d, and turned about %d", shown(a), shown(b), ab, turned)
		}
		if ab <= 0 && bc <= 0 && (ac > 0 || ac == 0 && ab+bc != 0) {
			t.Fatalf("%s and %s and %s: %d and %d, but %d", shown(a), shown(b), shown(c), ab, bc, ac)
		}
		if got := normal.Compare(a, cloned(a)); got != 0 {
			t.Fatalf("%s and itself: %d", shown(a), got)
		}
	}
	if min(seen[0], seen[1], seen[2]) < 300 {
		t.Errorf("%v of each", seen)
	}
}
