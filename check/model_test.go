package check_test

import (
	"fmt"
	"slices"

	"eyrie/api"
	"eyrie/value"
)

// The chapter's words, written anew as plainly as can be: for small trees.

// below are a tree's nodes, each ahead of its Kids.
func below(n api.Node) []api.Node {
	l := []api.Node{n}
	for _, k := range n.Kids {
		l = append(l, below(k)...)
	}
	return l
}

func modelTerms(n api.Node) int {
	many := 0
	for _, m := range below(n) {
		if len(m.Kids) == 0 {
			many++
		}
	}
	return many
}

func modelDeep(n api.Node) int {
	most := 0
	for _, k := range n.Kids {
		most = max(most, modelDeep(k))
	}
	return 1 + most
}

func modelVars(n api.Node) []string {
	var l []string
	for _, m := range below(n) {
		if m.Var != "" {
			l = append(l, m.Var)
		}
	}
	slices.Sort(l)
	return slices.Compact(l)
}

// modelWays are all ways to choose a kid of each NdOr: of each the variables that it binds.
func modelWays(n api.Node) [][]string {
	if len(n.Kids) == 0 {
		return [][]string{{n.Var}}
	}
	if n.Kind == api.NdOr {
		var l [][]string
		for _, k := range n.Kids {
			l = append(l, modelWays(k)...)
		}
		return l
	}
	l := [][]string{nil}
	for _, k := range n.Kids {
		var more [][]string
		for _, way := range l {
			for _, w := range modelWays(k) {
				more = append(more, slices.Concat(way, w))
			}
		}
		l = more
	}
	return l
}

func modelAlts(n api.Node) int { return min(len(modelWays(n)), api.MaxAlts+1) }

// modelSure are the variables that all ways bind.
func modelSure(n api.Node) []string {
	var l []string
	for _, name := range modelVars(n) {
		if !slices.ContainsFunc(modelWays(n), func(way []string) bool { return !slices.Contains(way, name) }) {
			l = append(l, name)
		}
	}
	return l
}

func modelBinds(n api.Node) api.Errno {
	for _, m := range below(n) {
		if m.Kind != api.NdSeq && m.Kind != api.NdAnd {
			continue
		}
		for i, k := range m.Kids {
			for _, o := range m.Kids[:i] {
				for _, name := range modelVars(o) {
					if slices.Contains(modelVars(k), name) {
						return api.ErrVar
					}
				}
			}
		}
	}
	return api.OK
}

// modelCond holds a condition against each of the chapter's faults.
func modelCond(c api.Cond, vars ...string) api.Errno {
	faults := []bool{
		!slices.Contains([]int{api.RelEq, api.RelNe, api.RelLt, api.RelLe, api.RelGt, api.RelGe}, c.Rel),
		c.Left.Attr == "" && c.Right.Attr == "",
	}
	for _, o := range []api.Operand{c.Left, c.Right} {
		if o.Attr == "" {
			faults = append(faults, o.Var != "", value.Check(o.Value) != api.OK)
			continue
		}
		faults = append(faults, o.Value.Kind != 0 || o.Value.N != 0 || o.Value.S != "", !value.Name(o.Attr))
		if len(vars) == 0 {
			faults = append(faults, o.Var != "")
		} else {
			faults = append(faults, !slices.Contains(vars, o.Var))
		}
	}
	if slices.Contains(faults, true) {
		return api.ErrCond
	}
	return api.OK
}

func modelShape(n api.Node) api.Errno {
	if modelDeep(n) > 8 || modelTerms(n) > 12 {
		return api.ErrDeep
	}
	for _, m := range below(n) {
		switch {
		case m.Kind == api.NdTerm && (len(m.Kids) > 0 || !value.Name(m.Var) || !value.Name(m.Type)):
			return api.ErrNode
		case m.Kind == api.NdTerm:
			if len(m.Tests) > 16 {
				return api.ErrCond
			}
			for _, c := range m.Tests {
				if err := modelCond(c); err != api.OK {
					return err
				}
			}
		case m.Kind != api.NdSeq && m.Kind != api.NdAnd && m.Kind != api.NdOr:
			return api.ErrNode
		case len(m.Kids) < 2 || m.Var != "" || m.Type != "" || len(m.Tests) > 0:
			return api.ErrNode
		}
	}
	if modelAlts(n) > 64 {
		return api.ErrDeep
	}
	return api.OK
}

func modelPattern(p api.Pattern) api.Errno {
	if !value.Name(p.Name) || p.Window < 1 || p.Window > 1<<40 {
		return api.ErrTitle
	}
	if err := modelShape(p.Root); err != api.OK {
		return err
	}
	if err := modelBinds(p.Root); err != api.OK {
		return err
	}
	if len(p.Where) > 16 {
		return api.ErrCond
	}
	for _, c := range p.Where {
		if err := modelCond(c, modelVars(p.Root)...); err != api.OK {
			return err
		}
	}
	return api.OK
}

// alike tells whether two trees are the same; empty and nil lists are.
func alike(m, n api.Node) bool {
	return m.Kind == n.Kind && m.Var == n.Var && m.Type == n.Type && slices.Equal(m.Tests, n.Tests) && slices.EqualFunc(m.Kids, n.Kids, alike)
}

func modelSame(p, q api.Pattern) bool {
	return p.Name == q.Name && p.Window == q.Window && alike(p.Root, q.Root) && slices.Equal(p.Where, q.Where)
}

// cloned is a tree in memory of its own.
func cloned(n api.Node) api.Node {
	n.Tests = slices.Clone(n.Tests)
	n.Kids = slices.Clone(n.Kids)
	for i := range n.Kids {
		n.Kids[i] = cloned(n.Kids[i])
	}
	return n
}

func modelClone(p api.Pattern) api.Pattern {
	p.Root = cloned(p.Root)
	p.Where = slices.Clone(p.Where)
	return p
}

// shown is a tree for a failure's text: not of one that is very deep, as nobody would read it.
func shown(n api.Node) string {
	level := 0
	for m := n; len(m.Kids) > 0; m = m.Kids[0] {
		if level++; level > 100 {
			return "a deep tree"
		}
	}
	return fmt.Sprintf("%+v", n)
}

func shownPattern(p api.Pattern) string {
	return fmt.Sprintf("%q within %d of %s where %+v", p.Name, p.Window, shown(p.Root), p.Where)
}
