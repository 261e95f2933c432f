package normal_test

import (
	"cmp"
	"fmt"
	"slices"

	"eyrie/api"
)

// The chapter's words, written anew as plainly as can be: for small trees.

// key is what a tree says, one field behind the other: a list's things each have a 1 ahead, and a 0 is behind the last one, so that a beginning is less.
func key(n api.Node) []any {
	l := []any{n.Kind, n.Type, n.Var}
	for _, c := range n.Tests {
		l = append(l, 1)
		l = append(l, keyOf(c.Left)...)
		l = append(l, c.Rel)
		l = append(l, keyOf(c.Right)...)
	}
	l = append(l, 0)
	for _, k := range n.Kids {
		l = append(l, 1)
		l = append(l, key(k)...)
	}
	return append(l, 0)
}

func keyOf(o api.Operand) []any {
	return []any{o.Var, o.Attr, o.Value.Kind, int(o.Value.N), o.Value.S}
}

// modelCompare is how the first fields stand that are not the same.
func modelCompare(m, n api.Node) int {
	a, b := key(m), key(n)
	for i := range min(len(a), len(b)) {
		c := 0
		switch v := a[i].(type) {
		case int:
			c = cmp.Compare(v, b[i].(int))
		case string:
			c = cmp.Compare(v, b[i].(string))
		}
		if c != 0 {
			return c
		}
	}
	return 0
}

func draws(kind int) bool { return kind == api.NdSeq || kind == api.NdAnd || kind == api.NdOr }

func modelFlat(n api.Node) api.Node {
	var kids []api.Node
	for _, k := range n.Kids {
		k = modelFlat(k)
		if k.Kind == n.Kind && draws(n.Kind) {
			kids = append(kids, k.Kids...)
		} else {
			kids = append(kids, k)
		}
	}
	n.Kids = kids
	return n
}

// modelSort puts each kid behind the last one that is not greater.
func modelSort(n api.Node) api.Node {
	var kids []api.Node
	for _, k := range n.Kids {
		k = modelSort(k)
		at := len(kids)
		if n.Kind == api.NdAnd || n.Kind == api.NdOr {
			for at > 0 && modelCompare(kids[at-1], k) > 0 {
				at--
			}
		}
		if n.Kind == api.NdOr && at > 0 && modelCompare(kids[at-1], k) == 0 {
			continue
		}
		kids = slices.Insert(kids, at, k)
	}
	n.Kids = kids
	return n
}

// modelMany is how many alternatives there are: to be asked ahead of modelAlts.
func modelMany(n api.Node) int {
	if len(n.Kids) == 0 {
		return 1
	}
	many := modelMany(n.Kids[0])
	for _, k := range n.Kids[1:] {
		if n.Kind == api.NdOr {
			many += modelMany(k)
		} else {
			many *= modelMany(k)
		}
		many = min(many, 1000)
	}
	return many
}

func modelAlts(n api.Node) []api.Node {
	if len(n.Kids) == 0 {
		return []api.Node{n}
	}
	if n.Kind == api.NdOr {
		var l []api.Node
		for _, k := range n.Kids {
			l = append(l, modelAlts(k)...)
		}
		return l
	}
	ways := [][]api.Node{nil}
	for _, k := range n.Kids {
		var more [][]api.Node
		for _, way := range ways {
			for _, alt := range modelAlts(k) {
				more = append(more, append(slices.Clone(way), alt))
			}
		}
		ways = more
	}
	var l []api.Node
	for _, way := range ways {
		n.Kids = way
		l = append(l, n)
	}
	return l
}

func modelTree(n api.Node) (api.Node, api.Errno) {
	if modelMany(n) > 64 {
		return api.Node{}, 80
	}
	var l []api.Node
	for _, alt := range modelAlts(n) {
		l = append(l, modelSort(modelFlat(alt)))
	}
	all := modelSort(or(l...))
	if len(all.Kids) == 1 {
		return all.Kids[0], api.OK
	}
	return all, api.OK
}

// below are a tree's nodes, each ahead of its Kids.
func below(n api.Node) []api.Node {
	l := []api.Node{n}
	for _, k := range n.Kids {
		l = append(l, below(k)...)
	}
	return l
}

// alike tells whether two trees are the same; empty and nil lists are.
func alike(m, n api.Node) bool {
	return m.Kind == n.Kind && m.Var == n.Var && m.Type == n.Type && slices.Equal(m.Tests, n.Tests) && slices.EqualFunc(m.Kids, n.Kids, alike)
}

func samePattern(p, q api.Pattern) bool {
	return p.Name == q.Name && p.Window == q.Window && alike(p.Root, q.Root) && slices.Equal(p.Where, q.Where)
}

// cloned is a tree in memory of its own.
func cloned(n api.Node) api.Node {
	n.Tests = slices.Clone(n.Tests)
	n.Kids = slices.Clone(n.Kids)
	for i := range n.Kids {
		n.Kids[i] = cloned(n.Kids[i])
	}
	return n
}

// shown is a tree for a failure's text: not of one that is very deep or wide, as nobody would read it.
func shown(n api.Node) string {
	level := 0
	for m := n; len(m.Kids) > 0; m = m.Kids[0] {
		if level++; level > 100 || len(m.Kids) > 1000 || len(m.Kids[len(m.Kids)-1].Kids) > 1000 {
			return "a great tree"
		}
	}
	return fmt.Sprintf("%+v", n)
}
