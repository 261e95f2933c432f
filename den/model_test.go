package den_test

import (
	"slices"

	"eyrie/api"
	"eyrie/check"
	"eyrie/event"
	"eyrie/match"
	"eyrie/pred"
)

// The chapter's words, written anew, as plainly as can be.

// model are a node's partials over events, each once, and how many there were at most at a place that is counted.
type model struct {
	events []api.Event
	most   int
}

// count leaves out those that are the same as one ahead, and counts the others.
func (m *model) count(l []api.Partial) []api.Partial {
	l = slices.Clone(l)
	slices.SortStableFunc(l, match.Compare)
	l = slices.CompactFunc(l, match.Same)
	m.most = max(m.most, len(l))
	return l
}

// node is P11.1. Where there are too many, the rest does not count.
func (m *model) node(n api.Node) []api.Partial {
	var l []api.Partial
	if m.most > api.MaxFound {
		return nil
	}
	switch n.Kind {
	case api.NdTerm:
		for _, e := range m.events {
			if pred.Term(n, e) {
				l = append(l, partial(bound(n.Var, e)))
			}
		}
	case api.NdOr:
		for _, k := range n.Kids {
			l = append(l, m.node(k)...)
		}
	default:
		var kids [][]api.Partial
		for _, k := range n.Kids {
			kids = append(kids, m.node(k))
		}
		for i := range kids {
			if m.most <= api.MaxFound {
				l = m.count(ways(n.Kind, kids[:i+1]))
			}
		}
	}
	return m.count(l)
}

// ways is what comes of each way to take one of each; no more than twice of what may be.
func ways(kind int, kids [][]api.Partial) []api.Partial {
	var l []api.Partial
	var choose func(chosen []api.Partial)
	choose = func(chosen []api.Partial) {
		if len(l) > 2*api.MaxFound {
			return
		}
		if len(chosen) < len(kids) {
			for _, p := range kids[len(chosen)] {
				choose(append(slices.Clip(chosen), p))
			}
			return
		}
		all := chosen[0]
		for i, p := range chosen[1:] {
			both, ok := match.Merge(all, p)
			if !ok || kind == api.NdSeq && match.Begin(p) <= match.End(chosen[i]) {
				return
			}
			all = both
		}
		l = append(l, all)
	}
	choose(nil)
	return l
}

// modelNode is P11.2.
func modelNode(n api.Node, events ...api.Event) ([]api.Partial, api.Errno) {
	if err := check.Shape(n); err != api.OK {
		return nil, err
	}
	if err := check.Binds(n); err != api.OK {
		return nil, err
	}
	if len(events) > 64 {
		return nil, api.ErrLong
	}
	ids := map[api.ID]bool{}
	for _, e := range events {
		if event.Check(e) != api.OK || ids[e.ID] {
			return nil, api.ErrDen
		}
		ids[e.ID] = true
	}
	m := &model{events: events}
	l := m.node(n)
	if m.most > 4096 {
		return nil, api.ErrFull
	}
	return l, api.OK
}

// modelMatch tells of a partial of a pattern's Root whether it is a match.
func modelMatch(p api.Pattern, m api.Partial) bool {
	var times []int64
	for _, b := range m.Bounds {
		times = append(times, b.Event.Time)
	}
	if times == nil || slices.Max(times)-slices.Min(times) > p.Window {
		return false
	}
	for _, c := range p.Where {
		if !pred.Cond(c, m) {
			return false
		}
	}
	return true
}

// modelAll is P11.3.
func modelAll(p api.Pattern, events ...api.Event) ([]api.Partial, api.Errno) {
	if err := check.Pattern(p); err != api.OK {
		return nil, err
	}
	l, err := modelNode(p.Root, events...)
	return slices.DeleteFunc(l, func(m api.Partial) bool { return !modelMatch(p, m) }), err
}

// modelFits is P11.4's first words: whether m is a partial of n over the events that it binds.
func modelFits(n api.Node, m api.Partial) bool {
	if match.Check(m) != api.OK {
		return false
	}
	var own []api.Event
	for _, b := range m.Bounds {
		own = append(own, b.Event)
	}
	l, err := modelNode(n, own...)
	return err == api.OK && slices.ContainsFunc(l, func(p api.Partial) bool { return alike(p, m) })
}

func modelIs(p api.Pattern, m api.Partial) bool {
	return check.Pattern(p) == api.OK && modelFits(p.Root, m) && modelMatch(p, m)
}
