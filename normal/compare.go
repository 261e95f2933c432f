package normal

import (
	"cmp"
	"slices"
	"strings"

	"eyrie/api"
)

// maxLevels is how deep trees are compared: far deeper than the document's bound, but Kids that hold themselves would have no end.
const maxLevels = 1 << 20

// endless is how trees stand that are the same as deep as they are compared.
const endless = 2

// Compare is how two trees stand.
func Compare(a, b api.Node) int {
	if c := compare(&a, &b, 1); c != endless {
		return c
	}
	return 0
}

func compare(a, b *api.Node, level int) int {
	if level > maxLevels {
		return endless
	}
	if c := compareFields(a, b); c != 0 {
		return c
	}
	for i := range min(len(a.Kids), len(b.Kids)) {
		if c := compare(&a.Kids[i], &b.Kids[i], level+1); c != 0 {
			return c
		}
	}
	return cmp.Compare(len(a.Kids), len(b.Kids))
}

// compareFields is how two nodes stand, whatever their Kids are.
func compareFields(a, b *api.Node) int {
	c := cmp.Or(cmp.Compare(a.Kind, b.Kind), strings.Compare(a.Type, b.Type), strings.Compare(a.Var, b.Var))
	if c != 0 {
		return c
	}
	return slices.CompareFunc(a.Tests, b.Tests, compareConds)
}

func compareConds(a, b api.Cond) int {
	return cmp.Or(compareSides(a.Left, b.Left), cmp.Compare(a.Rel, b.Rel), compareSides(a.Right, b.Right))
}

func compareSides(a, b api.Operand) int {
	return cmp.Or(strings.Compare(a.Var, b.Var), strings.Compare(a.Attr, b.Attr), compareValues(a.Value, b.Value))
}

// compareValues is not value's order, which goes by what a value's Kind says of it alone.
func compareValues(a, b api.Value) int {
	return cmp.Or(cmp.Compare(a.Kind, b.Kind), cmp.Compare(a.N, b.N), strings.Compare(a.S, b.S))
}
