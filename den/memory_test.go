package den_test

import (
	"slices"
	"testing"

	"eyrie/api"
	"eyrie/check"
	"eyrie/den"
	"eyrie/match"
)

// R3: what is handed in is not written to, and not kept; what is answered is nobody's else.

// deep are events in memory of their own, with room behind each list in which something stands.
func deep(l []api.Event) []api.Event {
	l = append(slices.Clone(l), api.Event{Type: "behind"})[:len(l)]
	for i, e := range l {
		l[i].Attrs = append(slices.Clone(e.Attrs), attr("behind", num(1)))[:len(e.Attrs)]
	}
	return l
}

// untouched tells whether what stands behind the lists of deep ones is what stood there.
func untouched(l []api.Event) bool {
	for _, e := range l {
		if e.Attrs[:len(e.Attrs)+1][len(e.Attrs)] != attr("behind", num(1)) {
			return false
		}
	}
	return l[:len(l)+1][len(l)].Type == "behind"
}

// spoil writes over all of a partial match, and behind its lists.
func spoil(p api.Partial) {
	for i, b := range p.Bounds {
		for j := range b.Event.Attrs {
			b.Event.Attrs[j] = attr("spoilt", num(9))
		}
		_ = append(b.Event.Attrs, attr("spoilt", num(9)), attr("spoilt", num(9)))
		p.Bounds[i] = bound("spoilt", api.Event{})
	}
	_ = append(p.Bounds, bound("spoilt", api.Event{}), bound("spoilt", api.Event{}))
}

// spots are the places in memory of lists, behind their ends, too.
type spots map[any]bool

func (s spots) takeEvent(e api.Event) bool {
	free := true
	l := e.Attrs[:cap(e.Attrs)]
	for i := range l {
		free = free && !s[&l[i]]
		s[&l[i]] = true
	}
	return free
}

// take tells whether no list of a partial match has a place that was taken; and takes them.
func (s spots) take(p api.Partial) bool {
	free := true
	l := p.Bounds[:cap(p.Bounds)]
	for i := range l {
		free = free && !s[&l[i]]
		s[&l[i]] = true
	}
	for _, b := range p.Bounds {
		free = s.takeEvent(b.Event) && free
	}
	return free
}

func TestArgumentsStay(t *testing.T) {
	r, told := dice(), 0
	for range 1000 {
		p, l := somePattern(r, 1+r.IntN(7)), someEvents(r, 7)
		wasP, wasL := check.Clone(p), deep(l)
		l = deep(l)
		places := spots{}
		for _, e := range l {
			places.takeEvent(e)
		}
		all, _ := den.All(p, l...)
		nodes, _ := den.Node(p.Root, l...)
		walk := den.Walk(p, l...)
		answers := slices.Concat(all, nodes, slices.Collect(walk), slices.Collect(walk))
		den.Many(p, l...)
		for _, m := range answers {
			if !places.take(m) {
				t.Fatalf("an answer of %s over%s shares memory: %s", shownNode(p.Root), shownEvents(l), shown(m))
			}
			told++
			was := match.Clone(m)
			den.Is(p, m)
			den.Fits(p.Root, m)
			den.Within(p, m)
			if !alike(m, was) {
				t.Fatalf("written to: %s", shown(m))
			}
			spoil(m)
		}
		if !check.Same(p, wasP) || !slices.EqualFunc(l, wasL, alikeEvents) || !untouched(l) {
			t.Fatalf("written to: %s over%s", shownNode(p.Root), shownEvents(l))
		}
		again := slices.Collect(walk)
		if want, _ := den.All(p, l...); !slices.EqualFunc(again, want, alike) {
			t.Fatalf("told other ones: %s, not %s", shownAll(again), shownAll(want))
		}
	}
	if told < 4000 {
		t.Errorf("%d partial matches were told", told)
	}
}

// Events that share their attributes do not share them in an answer.
func TestNoTwoListsOfAnAnswerShare(t *testing.T) {
	l := many("A", 5, 0)
	attrs := []api.Attr{attr("x", num(1))}
	for i := range l {
		l[i].Attrs = attrs
	}
	n := tree(t, "A as a & A as b | A as c")
	got, _ := den.Node(n, l...)
	places := spots{}
	for _, m := range got {
		if !places.take(m) {
			t.Errorf("%s shares memory", shown(m))
		}
	}
	if len(got) != 25 {
		t.Errorf("%d partials", len(got))
	}
}

// R4: empty lists are as none.
func TestEmptyLists(t *testing.T) {
	l := events(t, "A1 B2")
	bare, empty := tree(t, "A as a ; B as b"), tree(t, "A as a ; B as b")
	for i := range 2 {
		bare.Kids[i].Kids, bare.Kids[i].Tests = nil, nil
		empty.Kids[i].Kids, empty.Kids[i].Tests = []api.Node{}, []api.Cond{}
	}
	empty.Tests = []api.Cond{}
	p, q := api.Pattern{Name: "p", Window: 5, Root: bare}, api.Pattern{Name: "p", Window: 5, Root: empty, Where: []api.Cond{}}
	for range 2 {
		wantAll(t, p, l, "a0 b1")
		wantAll(t, q, l, "a0 b1")
		l[0].Attrs, l[1].Attrs = []api.Attr{}, []api.Attr{}
	}
}

// R6: the same calls answer the same.
func TestAgain(t *testing.T) {
	r := dice()
	for range 300 {
		p, l := somePattern(r, 1+r.IntN(7)), someEvents(r, 9)
		want, err := den.All(p, l...)
		for range 5 {
			if got, e := den.All(p, l...); e != err || !slices.EqualFunc(got, want, alike) {
				t.Fatalf("%s over%s: %s and %s", shownNode(p.Root), shownEvents(l), shownAll(got), shownAll(want))
			}
		}
	}
}
