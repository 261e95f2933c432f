package den_test

import (
	"math"
	"slices"
	"strings"
	"testing"

	"eyrie/api"
	"eyrie/check"
	"eyrie/den"
)

// P11.1

func TestTerms(t *testing.T) {
	l := events(t, "A1 B3 A3:7 A9:8 C9:7")
	wantNode(t, tree(t, "A as a"), l, "a0", "a2", "a3")
	wantNode(t, tree(t, "A as other"), l, "other0", "other2", "other3")
	wantNode(t, tree(t, "B as a"), l, "a1")
	wantNode(t, tree(t, "D as a"), l)
	wantNode(t, tree(t, "A as a[x > 6]"), l, "a2", "a3")
	wantNode(t, tree(t, "A as a[x > 6, x != 8]"), l, "a2")
	wantNode(t, tree(t, "A as a[y = 1]"), l)
	wantNode(t, tree(t, "A as a"), nil)
	wantNode(t, tree(t, "A as a"), []api.Event{})
}

func TestOrs(t *testing.T) {
	l := events(t, "A1 B3 A3:7 A9:8 C9:7")
	wantNode(t, tree(t, "A as a | B as b"), l, "a0", "a2", "a3", "b1")
	wantNode(t, tree(t, "A as a | D as d | C as c"), l, "a0", "a2", "a3", "c4")
	wantNode(t, tree(t, "A as a | B as a"), l, "a0", "a1", "a2", "a3")
	// the same partial of more than one kid counts once
	wantNode(t, tree(t, "A as a | A as a"), l, "a0", "a2", "a3")
	wantNode(t, tree(t, "A as a[x = 7] | A as a[x > 3] | A as a"), l, "a0", "a2", "a3")
	wantNode(t, tree(t, "A as a | (B as b | A as a) | (A as a | (A as a | A as b))"), l, "a0", "a2", "a3", "b0", "b1", "b2", "b3")
	wantNode(t, tree(t, "(A as a ; C as c) | (C as c & A as a)"), l, "a0 c4", "a2 c4", "a3 c4")
	// another variable is another partial
	wantNode(t, tree(t, "B as a | B as b"), l, "a1", "b1")
	wantNode(t, tree(t, "D as a | D as b"), l)
}

func TestAnds(t *testing.T) {
	l := events(t, "A1 B3 A3 A9 C9")
	wantNode(t, tree(t, "A as a & B as b"), l, "a0 b1", "a2 b1", "a3 b1")
	wantNode(t, tree(t, "B as b & A as a"), l, "a0 b1", "a2 b1", "a3 b1")
	wantNode(t, tree(t, "A as a & B as b & C as c"), l, "a0 b1 c4", "a2 b1 c4", "a3 b1 c4")
	wantNode(t, tree(t, "A as a & D as d"), l)
	wantNode(t, tree(t, "D as d & A as a"), l)
	// one event stands for no two variables
	wantNode(t, tree(t, "A as a & A as b"), l, "a0 b2", "a0 b3", "a2 b0", "a2 b3", "a3 b0", "a3 b2")
	wantNode(t, tree(t, "B as a & B as b"), l)
	wantNode(t, tree(t, "B as a & (A as b | B as b)"), l, "a1 b0", "a1 b2", "a1 b3")
	wantNode(t, tree(t, "(A as a & B as b) & (A as c & C as d)"), l, "a0 b1 c2 d4", "a0 b1 c3 d4", "a2 b1 c0 d4", "a2 b1 c3 d4", "a3 b1 c0 d4", "a3 b1 c2 d4")
	wantNode(t, tree(t, "A as a & A as b"), events(t, "A5 A5"), "a0 b1", "a1 b0")
	wantNode(t, tree(t, "A as a & A as b & A as c"), events(t, "A5 A6"))
	wantNode(t, tree(t, "A as a & A as b & A as c"), events(t, "A5 A6 A5"), "a0 b1 c2", "a0 b2 c1", "a1 b0 c2", "a1 b2 c0", "a2 b0 c1", "a2 b1 c0")
	// of kids that bind now this, now that
	wantNode(t, tree(t, "(A as a | B as b) & C as c"), l, "a0 c4", "a2 c4", "a3 c4", "b1 c4")
	wantNode(t, tree(t, "(A as a | B as b) & (C as c | B as d)"), l, "a0 c4", "a2 c4", "a3 c4", "b1 c4", "a0 d1", "a2 d1", "a3 d1")
}

func TestSeqs(t *testing.T) {
	l := events(t, "A1 B3 A3 A9 C9 B10")
	wantNode(t, tree(t, "A as a ; B as b"), l, "a0 b1", "a0 b5", "a2 b5", "a3 b5")
	wantNode(t, tree(t, "B as b ; A as a"), l, "a3 b1")
	wantNode(t, tree(t, "C as c ; A as a"), l)
	wantNode(t, tree(t, "A as a ; D as d"), l)
	wantNode(t, tree(t, "A as a ; A as b"), l, "a0 b2", "a0 b3", "a2 b3")
	wantNode(t, tree(t, "A as a ; A as b ; A as c"), l, "a0 b2 c3")
	wantNode(t, tree(t, "A as a ; A as b ; A as c ; A as d"), l)
	// at one time none is behind the other
	wantNode(t, tree(t, "A as a ; B as b"), events(t, "A5 B5 A4"), "a2 b1")
	wantNode(t, tree(t, "A as a ; B as b"), events(t, "A0 B0"))
	wantNode(t, tree(t, "A as a ; B as b"), events(t, "A0 B1"), "a0 b1")
	wantNode(t, tree(t, "A as a ; B as b"), events(t, "B1099511627776 A1099511627775"), "a1 b0")
	wantNode(t, tree(t, "A as a ; B as b"), events(t, "B1099511627776 A1099511627776"))
	// each kid is held against the one ahead of it: its Begin against that one's End
	l = events(t, "A1 B5 C4 D7 C6 D2")
	wantNode(t, tree(t, "A as a ; (B as b & C as c) ; D as d"), l, "a0 b1 c2 d3", "a0 b1 c4 d3")
	wantNode(t, tree(t, "(A as a & B as b) ; (C as c & D as d)"), l, "a0 b1 c4 d3")
	wantNode(t, tree(t, "(A as a & D as d) ; (C as c & B as b)"), l, "a0 b1 c2 d5", "a0 b1 c4 d5")
	wantNode(t, tree(t, "(A as a & D as d) ; C as c ; B as b"), l, "a0 b1 c2 d5")
	wantNode(t, tree(t, "(A as a ; C as c) ; B as b"), l, "a0 b1 c2")
	wantNode(t, tree(t, "A as a ; (C as c ; B as b)"), l, "a0 b1 c2")
	wantNode(t, tree(t, "(A as a | B as b) ; C as c"), l, "a0 c2", "a0 c4", "b1 c4")
	wantNode(t, tree(t, "A as a ; (C as c | D as d) ; B as b"), l, "a0 b1 c2", "a0 b1 d5")
}

// As many terms as may be, and variables that do not rise along the tree.
func TestManyTerms(t *testing.T) {
	l := events(t, "A1 B2 C3 D4 E5 F6 G7 H8 I9 J10 K11 L12")
	wantNode(t, tree(t, "A as l ; B as k ; C as j ; D as i ; E as h ; F as g ; G as f ; H as e ; I as d ; J as c ; K as b ; L as a"), l, "a11 b10 c9 d8 e7 f6 g5 h4 i3 j2 k1 l0")
	wantNode(t, tree(t, "A as c ; ((B as a & C as b) ; (D as e & E as d)) ; F as A"), l, "A5 a1 b2 c0 d4 e3")
	slices.Reverse(l)
	wantNode(t, tree(t, "A as a & B as b & C as c & D as d & E as e & F as f & G as g & H as h & I as i & J as j & K as k & L as l"), l, "a0 b1 c2 d3 e4 f5 g6 h7 i8 j9 k10 l11")
	wantNode(t, tree(t, "A as l | B as k | C as j | D as i | E as h | F as g | G as f | H as e | I as d | J as c | K as b | L as a"), l, "a11", "b10", "c9", "d8", "e7", "f6", "g5", "h4", "i3", "j2", "k1", "l0")
	wantNode(t, tree(t, "A as a ; (B as b & (C as c ; (D as d & (E as e ; (F as f & (G as g ; H as h))))))"), l, "a0 b1 c2 d3 e4 f5 g6 h7")
}

// P11.2

func TestNodeErrors(t *testing.T) {
	good := tree(t, "A as a ; B as b")
	deep := term("A", "a")
	for i := range 8 {
		deep = or(deep, term("A", letters(9)[i]))
	}
	shapes := map[api.Errno]api.Node{api.ErrNode: or(good, term("A", "")), api.ErrDeep: deep, api.ErrCond: term("A", "a", is("b", 1)), api.ErrVar: seq(good, good)}
	tooMany := many("A", api.MaxDen+1, 0)
	badEvent := []api.Event{ev(0, "A", 1), ev(1, "", 2)}
	twice := []api.Event{ev(0, "A", 1), ev(1, "A", 2), ev(0, "B", 3)}
	full := many("A", 17, 0)
	fullNode := and(terms(4, "A")...)
	wantNodeErr(t, good, tooMany[1:], api.OK)
	wantNodeErr(t, good, tooMany, api.ErrLong)
	wantNodeErr(t, good, badEvent, api.ErrDen)
	wantNodeErr(t, good, twice, api.ErrDen)
	wantNodeErr(t, fullNode, full, api.ErrFull)
	// the one that is named first
	for err, n := range shapes {
		for _, l := range [][]api.Event{nil, good0(), tooMany, badEvent, twice, full} {
			wantNodeErr(t, n, l, err)
		}
	}
	wantNodeErr(t, api.Node{}, tooMany, api.ErrNode)
	wantNodeErr(t, seq(good, good, api.Node{}), tooMany, api.ErrNode) // Shape's ahead of Binds'
	wantNodeErr(t, good, append(slices.Clone(badEvent), tooMany...), api.ErrLong)
	wantNodeErr(t, fullNode, append(slices.Clone(full), full[3]), api.ErrDen)
	wantNodeErr(t, fullNode, append(slices.Clone(full), api.Event{}), api.ErrDen)
	wantNodeErr(t, fullNode, many("A", 65, 0), api.ErrLong)
}

func good0() []api.Event { return []api.Event{ev(0, "A", 1), ev(1, "B", 2)} }

// Events that may not be, whichever error event.Check has, wherever they stand.
func TestNodeOfBadEvents(t *testing.T) {
	n := tree(t, "A as a")
	long := strings.Repeat("s", api.MaxString+1)
	for _, e := range []api.Event{{}, ev(3, "", 1), ev(3, "no name", 1), ev(3, "A", -1), ev(3, "A", api.MaxTime+1), ev(3, "A", math.MinInt64), ev(3, "A", math.MaxInt64),
		{ID: api.ID{Source: -1}, Type: "A"}, {ID: api.ID{Source: api.MaxSources}, Type: "A"}, {ID: api.ID{Seq: -1}, Type: "A"}, {ID: api.ID{Seq: api.MaxTime + 1}, Type: "A"},
		ev(3, "A", 1, attr("", num(1))), ev(3, "A", 1, attr("x", api.Value{})), ev(3, "A", 1, attr("x", str(long))), ev(3, "A", 1, attr("b", num(1)), attr("a", num(1))),
		ev(3, "A", 1, attr("a", num(1)), attr("a", num(1))), ev(3, "A", 1, make([]api.Attr, api.MaxAttrs+1)...), ev(3, "B", -1)} {
		for at := range 3 {
			l := slices.Insert(events(t, "A1 B2"), at, e)
			wantNodeErr(t, n, l, api.ErrDen)
			wantAllErr(t, pattern(t, "pattern p within 5 : A as a"), l, api.ErrDen)
		}
		wantNodeErr(t, n, []api.Event{e}, api.ErrDen)
	}
	most := api.Event{ID: api.ID{Source: api.MaxSources - 1, Seq: api.MaxTime}, Time: api.MaxTime, Type: "A"}
	wantMany(t, n, append(events(t, "A1"), most, ev(3, "A", 0)), 3)
}

// Two of the same ID, whatever else they are, wherever they stand.
func TestNodeOfTwins(t *testing.T) {
	n := tree(t, "A as a | B as b")
	for i := range 6 {
		for j := range i {
			l := many("A", 6, 0)
			l[i].ID = l[j].ID
			wantNodeErr(t, n, l, api.ErrDen)
			l[i].Type = "B"
			wantNodeErr(t, n, l, api.ErrDen)
			l[i] = l[j]
			wantNodeErr(t, n, l, api.ErrDen)
			wantAllErr(t, pattern(t, "pattern p within 5 : A as a"), l, api.ErrDen)
			// the same Source or the same Seq alone is another ID
			l[i].ID.Seq = 99
			wantNodeErr(t, n, l, api.OK)
			l[i].ID = api.ID{Source: 9, Seq: l[j].ID.Seq}
			wantNodeErr(t, n, l, api.OK)
		}
	}
}

// As many events as may be: the last one counts as the first one.
func TestNodeOfMostEvents(t *testing.T) {
	l := append(many("A", 62, 0), ev(62, "B", 62), ev(63, "C", 63))
	wantMany(t, tree(t, "A as a ; B as b ; C as c"), l, 62)
	wantMany(t, tree(t, "A as a & B as b & C as c"), l, 62)
	wantMany(t, tree(t, "(A as a | B as a | C as a) & (C as b | B as b | A as b)"), l, 64*63)
	wantMany(t, tree(t, "A as a ; A as b"), many("A", 64, 0), 64*63/2)
	wantMany(t, tree(t, "C as a & C as b"), l, 0)
	wantNode(t, tree(t, "B as b ; C as c"), l, "b62 c63")
	wantNode(t, tree(t, "C as a & (C as b | B as b)"), l, "a63 b62")
}

// groups are events of types A, B, .., so many of each, of another time each.
func groups(sizes ...int) []api.Event {
	var l []api.Event
	for i, n := range sizes {
		l = append(l, many(string(rune('A'+i)), n, len(l))...)
	}
	return l
}

// A node may have MaxFound partials, and no more: the node itself, one below, or first kids.
func TestNodeFull(t *testing.T) {
	just, more := groups(16, 16, 16), groups(16, 16, 17)
	for _, text := range []string{"A as a & B as b & C as c", "A as a ; B as b ; C as c", "A as a & (B as b & C as c)", "(A as a ; B as b) ; C as c", "C as c & B as b & A as a"} {
		n := tree(t, text)
		wantMany(t, n, just, api.MaxFound)
		wantNodeErr(t, n, more, api.ErrFull)
		// each counts once, however often it comes
		wantMany(t, or(n, n, n), just, api.MaxFound)
		wantMany(t, or(n, or(n, term("D", "d"))), just, api.MaxFound)
		wantNodeErr(t, or(n, term("A", "a")), just, api.ErrFull)
		wantNodeErr(t, or(term("A", "a"), n), just, api.ErrFull)
		wantNodeErr(t, or(n, or(n, term("A", "a"))), just, api.ErrFull)
		wantNodeErr(t, or(term("D", "d"), n), more, api.ErrFull)
		// a node below: nothing comes of it
		for _, kind := range []int{api.NdSeq, api.NdAnd} {
			for _, full := range []api.Node{n, or(n, term("D", "d")), or(term("D", "d"), n)} {
				wantMany(t, node(kind, full, term("D", "x")), just, 0)
				wantMany(t, node(kind, term("D", "x"), full), just, 0)
				wantMany(t, node(kind, term("D", "x"), term("D", "y"), full), just, 0)
				wantNodeErr(t, node(kind, full, term("D", "x")), more, api.ErrFull)
				wantNodeErr(t, node(kind, term("D", "x"), full), more, api.ErrFull)
				wantNodeErr(t, node(kind, term("D", "x"), term("D", "y"), full), more, api.ErrFull)
				wantNodeErr(t, or(node(kind, term("D", "x"), full), term("D", "d")), more, api.ErrFull)
			}
		}
		// matches are no fewer because the window is small
		wantAllErr(t, api.Pattern{Name: "p", Window: 1, Root: n}, more, api.ErrFull)
		wantAll(t, api.Pattern{Name: "p", Window: 1, Root: n}, just)
	}
	// just one too many
	n := tree(t, "A as a & B as b & C as c | X as x")
	wantMany(t, n, just, api.MaxFound)
	wantNodeErr(t, n, append(slices.Clone(just), ev(50, "X", 50)), api.ErrFull)
	n = tree(t, "(A as a & B as b | C as c) & D as d & X as x")
	wantMany(t, n, groups(15, 16, 1, 16), 0)
	wantMany(t, n, groups(14, 17, 2, 17), 0)
	wantNodeErr(t, n, groups(14, 17, 3, 17), api.ErrFull)
	wantNodeErr(t, n, groups(15, 16, 1, 17), api.ErrFull)
	wantNodeErr(t, seq(n, term("Y", "y")), groups(15, 16, 1, 17), api.ErrFull)
	// of an NdOr, each kid of which has fewer
	n = tree(t, "(A as a & B as b) | (A as a & C as c)")
	wantMany(t, n, groups(32, 22, 10), 32*32)
	n = tree(t, "(A as a & (B as b | C as b)) | (B as d & (A as c | C as c)) | (C as e & (A as f | B as f)) | (A as g & A as h)")
	wantMany(t, n, groups(22, 21, 21), 2*(22*21+22*21+21*21)+22*21)
	n = or(n, tree(t, "(B as i & B as j) | (A as k & A as l & B as m)"))
	wantNodeErr(t, n, groups(22, 21, 21), api.ErrDeep) // more than MaxTerms
	n = tree(t, "A as a & B as b | A as c & B as d | A as e & B as f | A as g & B as h")
	wantMany(t, n, groups(32, 32), 4*32*32)
	n.Kids = append(n.Kids, term("C", "i"))
	wantMany(t, n, groups(32, 32), 4*32*32)
	n.Kids = append(n.Kids, term("B", "i"))
	wantNodeErr(t, n, groups(32, 32), api.ErrFull)
}

// Of first kids so many come, but of all of them none, or few.
func TestNodeFullOfFirstKids(t *testing.T) {
	just, more := groups(16, 16, 16, 1), groups(16, 16, 17, 1)
	for _, x := range []struct {
		text string
		at   bool // whether it is full where there is one more
	}{
		{"A as a & B as b & C as c & X as x", true},
		{"A as a & B as b & X as x & C as c", false},
		{"A as a & X as x & B as b & C as c", false},
		{"X as x & A as a & B as b & C as c", false},
		{"A as a ; B as b ; C as c ; X as x", true},
		{"A as a ; B as b ; X as x ; C as c", false},
		{"X as x ; A as a ; B as b ; C as c", false},
		{"X as x ; (A as a ; B as b ; C as c)", true},
		{"(A as a & B as b) & X as x & C as c", false},
		{"X as x & (A as a & B as b & C as c)", true},
		{"X as x | (A as a ; B as b) ; X as y ; C as c", false},
		{"C as c ; B as b ; A as a", false},
		{"C as c ; (B as b & A as a)", false},
		{"C as c & (B as b ; A as a)", false},
		{"(A as a & B as b & C as c) ; A as x", true},
	} {
		wantMany(t, tree(t, x.text), just, 0)
		want := api.OK
		if x.at {
			want = api.ErrFull
		}
		wantNodeErr(t, tree(t, x.text), more, want)
	}
	// few come of all, but many of the first ones
	wantMany(t, tree(t, "A as a & B as b & (C as c & D as d[x = 1])"), more, 0)
	l := append(groups(16, 16, 17), ev(60, "A", 60))
	wantNodeErr(t, tree(t, "A as a & B as b & C as c & A as d"), l, api.ErrFull)
	wantNodeErr(t, tree(t, "A as a ; B as b ; C as c ; A as d"), l, api.ErrFull)
	wantMany(t, tree(t, "C as c ; A as d ; A as a ; B as b"), l, 0)
	wantMany(t, tree(t, "A as a ; B as b ; A as d ; C as c"), l, 0)
	// what is not in turn does not count
	wantMany(t, tree(t, "A as a ; A as b ; A as c"), many("A", 30, 0), 30*29*28/6)
	wantNodeErr(t, tree(t, "A as a ; A as b ; A as c"), many("A", 31, 0), api.ErrFull)
	wantNodeErr(t, tree(t, "A as a & A as b & A as c"), many("A", 17, 0), api.OK)
	wantNodeErr(t, tree(t, "A as a & A as b & A as c"), many("A", 18, 0), api.ErrFull)
	wantMany(t, tree(t, "A as a ; A as b ; A as c ; A as d ; A as e"), at(7, many("A", 64, 0)), 0)
}

// Partials rise by match.Compare, whatever the order of the kids.
func TestNodeInOrder(t *testing.T) {
	l := []api.Event{ev(0, "A", 9), ev(1, "A", 1), ev(2, "A", 5), ev(3, "A", 5), {ID: api.ID{Source: 0, Seq: 1}, Time: 3, Type: "A"}, {ID: api.ID{Source: 15, Seq: 0}, Time: 0, Type: "A"}}
	got, err := den.Node(tree(t, "A as b | A as a | (A as c & A as a)"), l...)
	if err != api.OK || len(got) != 6+6+30 {
		t.Fatalf("%d partials, error %d", len(got), err)
	}
	wantRising(t, got, l)
	// a; a and c; b: by Source, then by Seq
	first := []string{"a0", "a0 c1", "a0 c3", "a0 c1", "a0 c2", "a0 c0", "a1"}
	for i, want := range first {
		if shown(got[i]) != want {
			t.Errorf("%d: %s, not %s", i, shown(got[i]), want)
		}
	}
}

// Trees and events by chance against the chapter's words.
func TestNodesByChance(t *testing.T) {
	r, seen, sizes := dice(), counted[api.Errno]{}, counted[int]{}
	for range 20000 {
		n, l := someTree(r, 1+r.IntN(9), letters(6)), someEvents(r, 12)
		want, err := modelNode(n, l...)
		got, e := den.Node(n, l...)
		seen[e]++
		sizes[min(len(got), 50)/10]++ // in tens
		if e != err || !slices.EqualFunc(got, want, alike) {
			t.Fatalf("%s over%s: %s, error %d, not %s, error %d", shownNode(n), shownEvents(l), shownAll(got), e, shownAll(want), err)
		}
	}
	seen.many(t, "Node", 10000, api.OK)
	sizes.many(t, "Node", 100, 0, 1, 2, 5)
}

// Trees and events of which there come about as many as may be.
func TestFullByChance(t *testing.T) {
	r, seen, sizes := dice(), counted[api.Errno]{}, counted[int]{}
	for range 300 {
		n, l := someTree(r, 6+r.IntN(3), letters(7)), someEvents(r, 0)
		for i := range 10 + r.IntN(40) {
			l = append(l, ev(i, pick(r, "A", "B", "C"), r.Int64N(60)))
		}
		want, err := modelNode(n, l...)
		got, e := den.Node(n, l...)
		seen[e]++
		sizes[min(len(got)/1000, 3)]++
		if e != err || !slices.EqualFunc(got, want, alike) {
			t.Fatalf("%s over%s: %d, error %d, not %d, error %d", shownNode(n), shownEvents(l), len(got), e, len(want), err)
		}
	}
	seen.many(t, "Node", 15, api.OK, api.ErrFull)
	sizes.many(t, "Node", 5, 0, 1, 3)
}

// Trees and events that mostly may not be.
func TestNodeErrorsByChance(t *testing.T) {
	r, seen := dice(), counted[api.Errno]{}
	for range 5000 {
		n, l := someTree(r, 1+r.IntN(5), letters(5)), someEvents(r, 6)
		for range r.IntN(3) {
			switch r.IntN(5) {
			case 0:
				n = node(pick(r, kinds()...), n, term("A", pick(r, letters(9)...)))
			case 1:
				n = node(pick(r, kinds()...), n)
			case 2:
				l = append(l, pick(r, someEvent(r, r.IntN(9)), api.Event{}))
			case 3:
				l = append(l, many("A", pick(r, 3, 57+r.IntN(9)), 9)...)
			default:
				n = pick(r, n, term("A", "a", is(pick(r, "", "a"), 1)))
			}
		}
		if !quick(n, l) {
			continue
		}
		_, err := modelNode(n, l...)
		got, e := den.Node(n, l...)
		seen[e]++
		if e != err || e != api.OK && got != nil {
			t.Fatalf("%s over%s: error %d, not %d", shownNode(n), shownEvents(l), e, err)
		}
	}
	seen.many(t, "Node", 40, api.OK, api.ErrNode, api.ErrCond, api.ErrVar, api.ErrLong, api.ErrDen)
}

// quick tells whether the model does not have to go through many ways.
func quick(n api.Node, l []api.Event) bool {
	return len(l) <= 12 || len(l) > api.MaxDen || len(check.Vars(n)) <= 2
}

// kinds are the kinds of nodes, and some that are none.
func kinds() []int { return []int{api.NdTerm, api.NdSeq, api.NdAnd, api.NdOr, 0, -1, 5, math.MinInt} }
