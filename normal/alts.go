package normal

import (
	"eyrie/api"
	"eyrie/check"
)

// Alts are a tree's alternatives: trees without or.
func Alts(n api.Node) ([]api.Node, api.Errno) {
	if check.Alts(n) > api.MaxAlts {
		return nil, api.ErrAlts
	}
	l := alternatives(&n)
	for i := range l {
		// what no or parts stands in many alternatives at once
		l[i] = own(l[i])
	}
	return l, api.OK
}

// alternatives are a tree's alternatives, in memory that they share with it and with each other.
func alternatives(n *api.Node) []api.Node {
	var l []api.Node
	each(n, func(alt *api.Node) { l = append(l, *alt) })
	return l
}

// each tells a tree's alternatives, one by one.
func each(n *api.Node, tell func(alt *api.Node)) {
	if len(n.Kids) == 0 {
		tell(n)
		return
	}
	if n.Kind == api.NdOr {
		for i := range n.Kids {
			each(&n.Kids[i], tell)
		}
		return
	}
	kids := make([][]api.Node, len(n.Kids))
	for i := range n.Kids {
		kids[i] = alternatives(&n.Kids[i])
	}
	choose(kids, nil, func(taken []api.Node) {
		alt := *n
		alt.Kids = taken
		tell(&alt)
	})
}

// choose tells each way to take one of each list, behind what was taken so far; what the last list has runs fastest.
func choose(lists [][]api.Node, taken []api.Node, tell func(taken []api.Node)) {
	// where there is no choice, nothing need be copied
	for len(lists) > 0 && len(lists[0]) == 1 {
		taken = append(taken, lists[0][0])
		lists = lists[1:]
	}
	if len(lists) == 0 {
		tell(taken)
		return
	}
	for _, alt := range lists[0] {
		// with room behind it, each choice would be written over the one ahead
		choose(lists[1:], append(taken[:len(taken):len(taken)], alt), tell)
	}
}
