package check

import (
	"slices"

	"eyrie/api"
)

// Same tells whether two patterns are the same, field by field.
func Same(a, b api.Pattern) bool {
	var same func(a, b *api.Node, level int) bool
	same = func(a, b *api.Node, level int) bool {
		if a.Kind != b.Kind || a.Var != b.Var || a.Type != b.Type || !slices.Equal(a.Tests, b.Tests) {
			return false
		}
		if level > maxLevels || len(a.Kids) != len(b.Kids) {
			return false
		}
		for i := range a.Kids {
			if !same(&a.Kids[i], &b.Kids[i], level+1) {
				return false
			}
		}
		return true
	}
	return a.Name == b.Name && a.Window == b.Window && slices.Equal(a.Where, b.Where) && same(&a.Root, &b.Root, 1)
}

// Clone is the same pattern, in memory of its own.
func Clone(p api.Pattern) api.Pattern {
	if !ends(&p.Root) {
		return api.Pattern{}
	}
	var clone func(n *api.Node)
	clone = func(n *api.Node) {
		n.Tests = cloned(n.Tests)
		n.Kids = cloned(n.Kids)
		for i := range n.Kids {
			clone(&n.Kids[i])
		}
	}
	clone(&p.Root)
	p.Where = cloned(p.Where)
	return p
}

// cloned is the same list; of an empty one nil, as even an empty piece of another list would stand in that one's memory.
func cloned[T any](l []T) []T {
	if len(l) == 0 {
		return nil
	}
	return slices.Clone(l)
}
