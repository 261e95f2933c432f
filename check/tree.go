package check

import "eyrie/api"

// maxLevels is how deep a tree may be that is gone through: far deeper than the document's bound, but Kids that hold themselves would have no end.
const maxLevels = 1 << 20

// each goes through a tree, a node ahead of its Kids, as long as more says so; and tells whether all of it was gone through.
func each(n *api.Node, more func(n *api.Node, level int) bool) bool {
	var walk func(n *api.Node, level int) bool
	walk = func(n *api.Node, level int) bool {
		if level > maxLevels || !more(n, level) {
			return false
		}
		for i := range n.Kids {
			if !walk(&n.Kids[i], level+1) {
				return false
			}
		}
		return true
	}
	return walk(n, 1)
}

// ends tells whether a tree may be gone through to its end.
func ends(n *api.Node) bool {
	return each(n, func(*api.Node, int) bool { return true })
}

// Terms is how many nodes without Kids a tree has.
func Terms(n api.Node) int {
	terms := 0
	each(&n, func(n *api.Node, _ int) bool {
		if len(n.Kids) == 0 {
			terms++
		}
		return true
	})
	return terms
}

// Deep is how many levels a tree has.
func Deep(n api.Node) int {
	deep := 0
	each(&n, func(_ *api.Node, level int) bool {
		deep = max(deep, level)
		return true
	})
	return deep
}

// Alts is how many ways there are to choose a kid of each NdOr of a tree, told up to one above MaxAlts.
func Alts(n api.Node) int {
	const many = api.MaxAlts + 1
	var alts func(n *api.Node, level int) int
	alts = func(n *api.Node, level int) int {
		if level > maxLevels {
			return many
		}
		if len(n.Kids) == 0 {
			return 1
		}
		all := alts(&n.Kids[0], level+1)
		// no node has less than one way, so that what is too many stays so
		for i := 1; i < len(n.Kids) && all < many; i++ {
			kid := alts(&n.Kids[i], level+1)
			if n.Kind == api.NdOr {
				all = min(all+kid, many)
			} else {
				all = min(all*kid, many)
			}
		}
		return all
	}
	return alts(&n, 1)
}

// Vars are the variables of a tree's nodes, rising.
func Vars(n api.Node) []string {
	all := names{}
	each(&n, func(n *api.Node, _ int) bool {
		all = all.with(n.Var)
		return true
	})
	return all.rising()
}

// Sure are the variables that a tree binds whichever kid of each NdOr is chosen, rising.
func Sure(n api.Node) []string {
	if !ends(&n) {
		return nil
	}
	var sure func(n *api.Node) names
	sure = func(n *api.Node) names {
		if len(n.Kids) == 0 {
			return names(nil).with(n.Var)
		}
		all := sure(&n.Kids[0])
		for i := 1; i < len(n.Kids); i++ {
			if kid := sure(&n.Kids[i]); n.Kind == api.NdOr {
				all = common(all, kid)
			} else {
				all = either(all, kid)
			}
		}
		return all
	}
	return sure(&n).rising()
}

// Binds tells whether no variable stands in two Kids of a node that takes of each of them one.
func Binds(n api.Node) api.Errno {
	var vars func(n *api.Node, level int) (names, bool)
	vars = func(n *api.Node, level int) (names, bool) {
		if level > maxLevels {
			return nil, false
		}
		var all names
		for i := range n.Kids {
			kid, ok := vars(&n.Kids[i], level+1)
			if !ok || (n.Kind == api.NdSeq || n.Kind == api.NdAnd) && meet(all, kid) {
				return nil, false
			}
			all = either(all, kid)
		}
		return all.with(n.Var), true
	}
	if _, ok := vars(&n, 1); !ok {
		return api.ErrVar
	}
	return api.OK
}
