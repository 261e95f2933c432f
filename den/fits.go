package den

import (
	"slices"

	"eyrie/api"
	"eyrie/check"
	"eyrie/match"
	"eyrie/pred"
)

// Is tells whether a partial match is a match of a pattern, whatever other events there are.
func Is(p api.Pattern, m api.Partial) bool {
	return check.Pattern(p) == api.OK && Fits(p.Root, m) && isMatch(p, m)
}

// Fits tells whether a partial match is a partial of a node over the events that it binds.
func Fits(n api.Node, m api.Partial) bool {
	return mayBe(n) == api.OK && match.Check(m) == api.OK && fits(n, m)
}

// fits is Fits, of what may be.
func fits(n api.Node, m api.Partial) bool {
	switch n.Kind {
	case api.NdTerm:
		return len(m.Bounds) == 1 && m.Bounds[0].Var == n.Var && pred.Term(n, m.Bounds[0].Event)
	case api.NdOr:
		return slices.ContainsFunc(n.Kids, func(kid api.Node) bool { return fits(kid, m) })
	}
	return fitsAll(n, m)
}

// fitsAll tells whether each bound is a kid's, and each kid takes its own. No two kids have a variable in common, so that it is enough to count the bounds.
func fitsAll(n api.Node, m api.Partial) bool {
	ahead, bounds := int64(-1), 0
	for _, k := range n.Kids {
		part := of(m, check.Vars(k))
		if !fits(k, part) || n.Kind == api.NdSeq && match.Begin(part) <= ahead {
			return false
		}
		ahead = match.End(part)
		bounds += len(part.Bounds)
	}
	return bounds == len(m.Bounds)
}

// of is those bounds of a partial match whose variables are among some.
func of(m api.Partial, vars []string) api.Partial {
	var part api.Partial
	for _, b := range m.Bounds {
		if slices.Contains(vars, b.Var) {
			part.Bounds = append(part.Bounds, b)
		}
	}
	return part
}
