package den

import (
	"slices"

	"eyrie/api"
	"eyrie/event"
	"eyrie/pred"
)

// search is where the partials of a tree's nodes are looked for: the tree's variables, rising, and the events. There are so few of both that places among them say which is meant.
type search struct {
	vars   []string
	events []api.Event
}

// found is a partial of a node, with what is asked of it again and again where partials are put together.
type found struct {
	at     [api.MaxTerms]int8 // of each variable 1 and its event's place; 0: it is not bound
	events uint64             // a bit of each of its events
	begin  int64
	end    int64
}

// nothing is what all partials may be put behind, and what adds nothing to them.
func nothing() found { return found{begin: api.Forever, end: -1} }

// node tells a node's partials, some more than once, as long as tell says true. It says whether it got to the end: not, if tell said false, or what it gathered on its way was too many.
func (s search) node(n api.Node, tell func(found) bool) bool {
	switch n.Kind {
	case api.NdTerm:
		return s.term(n, tell)
	case api.NdOr:
		return !slices.ContainsFunc(n.Kids, func(kid api.Node) bool { return !s.node(kid, tell) })
	}
	return s.together(n, tell)
}

// term tells a term's partials.
func (s search) term(n api.Node, tell func(found) bool) bool {
	v := slices.Index(s.vars, n.Var)
	for i, e := range s.events {
		f := found{events: 1 << i, begin: e.Time, end: e.Time}
		f.at[v] = int8(i + 1)
		if pred.Term(n, e) && !tell(f) {
			return false
		}
	}
	return true
}

// together tells the partials that come of one of each kid. Each kid is looked at, even where nothing comes of those ahead: it may have too many.
func (s search) together(n api.Node, tell func(found) bool) bool {
	first := []found{nothing()}
	for _, k := range n.Kids {
		kid, ok := gather(func(tell func(found) bool) bool { return s.node(k, tell) })
		if !ok {
			return false
		}
		first, ok = gather(func(tell func(found) bool) bool { return pairs(first, kid, n.Kind == api.NdSeq, tell) })
		if !ok {
			return false
		}
	}
	return !slices.ContainsFunc(first, func(f found) bool { return !tell(f) })
}

// pairs tells what comes of one of each of two lists: of those that have no event in common, and, if they are asked to be in turn, one of which begins behind the end of the other.
func pairs(first, second []found, inTurn bool, tell func(found) bool) bool {
	for i := range first {
		f := &first[i]
		for j := range second {
			g := &second[j]
			if f.events&g.events != 0 || inTurn && g.begin <= f.end {
				continue
			}
			if !tell(merged(*f, *g)) {
				return false
			}
		}
	}
	return true
}

// merged is two partials as one: they have no variable and no event in common.
func merged(f, g found) found {
	for v, at := range g.at {
		f.at[v] += at
	}
	f.events |= g.events
	f.begin, f.end = min(f.begin, g.begin), max(f.end, g.end)
	return f
}

// gather is all that is told, each once: false, if it is too many, or was not told to its end.
func gather(all func(tell func(found) bool) bool) ([]found, bool) {
	var l []found
	has := map[found]struct{}{}
	ok := all(func(f found) bool {
		if _, twice := has[f]; !twice {
			has[f] = struct{}{}
			l = append(l, f)
		}
		return len(l) <= api.MaxFound
	})
	if !ok {
		return nil, false
	}
	return l, true
}

// partial is what was found, as others know it, in memory of its own.
func (s search) partial(f found) api.Partial {
	var p api.Partial
	for v, at := range f.at {
		if at > 0 {
			p.Bounds = append(p.Bounds, api.Bound{Var: s.vars[v], Event: event.Clone(s.events[at-1])})
		}
	}
	return p
}
