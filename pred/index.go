package pred

import (
	"slices"

	"eyrie/api"
	"eyrie/value"
)

// index finds the values of operands: more conditions than a pattern may have can't go through all bounds and attributes each.
type index struct {
	bounds map[string]int // of each variable the first bound
	attrs  map[spot]found // of each attribute of those the first one of its name
}

// spot is where an attribute stands.
type spot struct {
	bound int
	attr  string
}

// found is an attribute's value. Its brief one stands to those of other attributes as the value does, but has a short string: each attribute's string may be long, and be asked for by all conditions.
type found struct {
	value api.Value
	brief api.Value
}

// indexed is the index of bound events.
func indexed(l []api.Bound) index {
	x := index{map[string]int{}, map[spot]found{}}
	order := ranks(l)
	for i, b := range l {
		if _, ok := x.bounds[b.Var]; ok {
			continue
		}
		x.bounds[b.Var] = i
		for _, a := range b.Event.Attrs {
			at := spot{i, a.Name}
			if _, ok := x.attrs[at]; !ok {
				x.attrs[at] = found{a.Value, brief(a.Value, order[a.Value.S])}
			}
		}
	}
	return x
}

// ranks are the strings of all attributes, each with its place among them.
func ranks(l []api.Bound) map[string]int {
	var all []string
	for _, b := range l {
		for _, a := range b.Event.Attrs {
			all = append(all, a.Value.S)
		}
	}
	slices.Sort(all)
	order := map[string]int{}
	for i, s := range slices.Compact(all) {
		order[s] = i
	}
	return order
}

// brief is a value whose string is but its rank, the greatest byte ahead: four are enough for as many as there can be.
func brief(v api.Value, rank int) api.Value {
	var b [4]byte
	for i := range b {
		b[i] = byte(rank >> (24 - 8*i))
	}
	v.S = string(b[:])
	return v
}

// find is what Value answers, with its brief one; of a constant there is none.
func (x index) find(o api.Operand) (found, bool) {
	if constant(o) {
		return found{value: o.Value}, true
	}
	i, ok := x.bounds[o.Var]
	return x.attrs[spot{i, o.Attr}], ok
}

// holds is what Cond answers.
func (x index) holds(c api.Cond) bool {
	left, bound := x.find(c.Left)
	right, also := x.find(c.Right)
	if !bound || !also {
		return true
	}
	if constant(c.Left) || constant(c.Right) {
		return value.Holds(c.Rel, left.value, right.value)
	}
	return value.Holds(c.Rel, left.brief, right.brief)
}
