package oper

import (
	"slices"
	"strings"

	"eyrie/api"
	"eyrie/match"
	"eyrie/pred"
)

// joining looks for what comes of one of each input.
type joining struct {
	inTurn bool // each one is to end below the begin of the next one
	window int64
	conds  []api.Cond
	told   []api.Partial           // of several that are 0 to each other that one ahead of the others which is to be told
	room   [api.MaxTerms]api.Bound // where two are laid together to be looked at
}

// joined is what comes of a partial match that passes and of one that is kept of each other input: false, if it is too much.
func (x *Oper) joined(input int, came *stored) ([]api.Partial, bool) {
	ways := slices.Clone(x.kept[:x.op.Inputs])
	ways[input] = []*stored{came}
	if slices.ContainsFunc(ways, isEmpty) {
		return nil, true
	}
	// the conditions on its variables alone hold, and go on to hold, whatever it is put together with
	_, later := pred.Split(x.op.Conds, vars(came.p)...)
	j := &joining{inTurn: x.op.Kind == api.OpSeq, window: x.op.Window, conds: later}
	for i, l := range ways {
		if i != input {
			ways[i] = j.fitting(came, l, i < input)
		}
	}
	if !j.from(ways, nil) || !j.settle() {
		return nil, false
	}
	for i, p := range j.told { // what is kept is not handed out
		j.told[i] = match.Clone(p)
	}
	return j.told, true
}

// vars are the variables of a partial match.
func vars(p api.Partial) []string {
	var l []string
	for _, b := range p.Bounds {
		l = append(l, b.Var)
	}
	return l
}

// from takes one of each input that is left, with these bounds of those ahead. It says whether what came of it was not too much.
// The inputs are gone through in order, and what is kept of each one rises: so of several that are 0 to each other the one that is to be told comes first.
func (j *joining) from(left [][]*stored, taken []api.Bound) bool {
	if !mayLead(left, len(taken), j.inTurn) {
		return true
	}
	if len(left) == 0 {
		return j.tell(taken)
	}
	for _, s := range left[0] {
		var rest [][]*stored
		for _, l := range left[1:] {
			rest = append(rest, j.fitting(s, l, false))
		}
		if !j.from(rest, slices.Concat(taken, s.p.Bounds)) {
			return false
		}
	}
	return true
}

// fitting are those of another input's that can be put together with one: ahead says whether that other input is ahead of its own.
// What passes so two by two passes as a whole: a condition has no more than two variables, and no two events of the whole are farther apart than those of two of its parts.
func (j *joining) fitting(one *stored, l []*stored, ahead bool) []*stored {
	var fit []*stored
	for _, s := range l {
		first, second := one, s
		if ahead {
			first, second = s, one
		}
		if (!j.inTurn || first.end < second.begin) && j.together(one, s) {
			fit = append(fit, s)
		}
	}
	return fit
}

// together tells whether two partial matches have nothing in common, and pass as one.
func (j *joining) together(a, b *stored) bool {
	if len(a.p.Bounds)+len(b.p.Bounds) > api.MaxTerms || !areApart(a.p.Bounds, b.p.Bounds) {
		return false
	}
	both := append(append(j.room[:0], a.p.Bounds...), b.p.Bounds...)
	p := api.Partial{Bounds: both} // in no order: neither of these two minds
	return match.Within(p, j.window) && pred.All(j.conds, p)
}

// areApart tells whether bounds have no event and no variable in common.
func areApart(a, b []api.Bound) bool {
	for i := range a {
		for k := range b {
			if a[i].Event.ID == b[k].Event.ID || a[i].Var == b[k].Var {
				return false
			}
		}
	}
	return true
}

// tell puts the partial match of these bounds behind those that are told, and says whether they are not too many.
func (j *joining) tell(bounds []api.Bound) bool {
	slices.SortFunc(bounds, func(a, b api.Bound) int { return strings.Compare(a.Var, b.Var) })
	j.told = append(j.told, api.Partial{Bounds: bounds})
	return len(j.told) < 2*api.MaxStore || j.settle()
}

// settle leaves each once, rising, of several that are 0 to each other the first, and says whether they are not too many.
func (j *joining) settle() bool {
	slices.SortStableFunc(j.told, match.Compare)
	j.told = slices.CompactFunc(j.told, func(a, b api.Partial) bool { return match.Compare(a, b) == 0 })
	return len(j.told) <= api.MaxStore
}
