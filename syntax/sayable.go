package syntax

import (
	"eyrie/api"
	"eyrie/value"
)

// maxLevels is how deep a tree may be that is gone through: far deeper than any text says, but kids that hold themselves would have no end.
const maxLevels = 1 << 20

// isPattern tells whether words say such a pattern. Each window is an int, so that one says it.
func isPattern(p api.Pattern) bool {
	return value.Name(p.Name) && isTree(&p.Root, 1) && areConds(p.Where)
}

// isTree tells whether words say such a tree, whose root stands at a level.
func isTree(n *api.Node, level int) bool {
	switch n.Kind {
	case api.NdTerm:
		return len(n.Kids) == 0 && value.Name(n.Type) && value.Name(n.Var) && areConds(n.Tests)
	case api.NdSeq, api.NdAnd, api.NdOr:
		if len(n.Kids) < 2 || n.Type != "" || n.Var != "" || len(n.Tests) > 0 || level == maxLevels {
			return false
		}
		for i := range n.Kids {
			if !isTree(&n.Kids[i], level+1) {
				return false
			}
		}
		return true
	}
	return false
}

func areConds(l []api.Cond) bool {
	for _, c := range l {
		if !isCond(c) {
			return false
		}
	}
	return true
}

// isCond tells whether words say such a condition.
func isCond(c api.Cond) bool {
	_, ok := relation(c.Rel)
	return ok && isSide(c.Left) && isSide(c.Right)
}

func isSide(o api.Operand) bool {
	if o.Attr == "" {
		return o.Var == "" && value.Check(o.Value) == api.OK
	}
	return value.Name(o.Attr) && (o.Var == "" || value.Name(o.Var)) && o.Value == api.Value{}
}
