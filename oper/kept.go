package oper

import (
	"iter"
	"slices"

	"eyrie/api"
	"eyrie/bits"
	"eyrie/match"
)

// maxForms is how many bits the forms of all that is kept may have: marks and numbers have their place beside them in a state.
const maxForms = api.MaxBits - 1<<12

// stored is a partial match that is kept, with what is asked of it again and again. It is never changed, so that operators and iterators may share it.
type stored struct {
	p     api.Partial
	begin int64
	end   int64
	form  int // how many bits its form has
}

// store is a partial match that may be, in memory of its own.
func store(p api.Partial) *stored {
	form := bits.NewSink()
	match.Put(form, p)
	return &stored{p: match.Clone(p), begin: match.Begin(p), end: match.End(p), form: form.Len()}
}

// of is what is kept of an input, rising by match.Compare: nothing, if there is no such input.
func (x *Oper) of(input int) []*stored {
	if !x.isMade() || !x.hasInput(input) {
		return nil
	}
	return x.kept[input]
}

// find is the place of a partial match among those that are kept of an input, and whether it is there.
func (x *Oper) find(input int, p api.Partial) (int, bool) {
	return slices.BinarySearchFunc(x.kept[input], p, func(s *stored, p api.Partial) int { return match.Compare(s.p, p) })
}

// hasRoom tells whether one more can be kept of an input.
func (x *Oper) hasRoom(input int, s *stored) bool {
	return len(x.kept[input]) < api.MaxStore && x.forms+s.form <= maxForms
}

// keep puts a partial match at its place. That it began at the horizon or behind need not be asked: it ends at the merged mark or behind, and lies within the window.
func (x *Oper) keep(input, at int, s *stored) {
	x.kept[input] = slices.Insert(x.kept[input], at, s)
	x.forms += s.form
}

// drop lets go what began below the horizon.
func (x *Oper) drop(horizon int64) {
	for i, l := range x.kept {
		var stay []*stored
		for _, s := range l {
			if s.begin >= horizon {
				stay = append(stay, s)
			} else {
				x.forms -= s.form
			}
		}
		x.kept[i] = stay
	}
}

// clones goes through partial matches, each in memory of its own.
func clones(l iter.Seq[*stored]) iter.Seq[api.Partial] {
	return func(yield func(api.Partial) bool) {
		for s := range l {
			if !yield(match.Clone(s.p)) {
				return
			}
		}
	}
}
