package match

import (
	"iter"
	"maps"
	"slices"
	"strconv"

	"eyrie/api"
)

// Set is partial matches: of those that are 0 to each other by Compare the one that came first.
type Set struct {
	held map[string]api.Partial // by their keys; none of them is changed any more; nil: no call made this set
}

// NewSet is a set of partial matches, without those that may not be.
func NewSet(l ...api.Partial) *Set {
	s := &Set{held: map[string]api.Partial{}}
	for _, p := range l {
		s.Add(p)
	}
	return s
}

// Add puts a partial match in, and tells whether it may be and is new.
func (s *Set) Add(p api.Partial) bool {
	if !s.isMade() || Check(p) != api.OK || s.Has(p) {
		return false
	}
	s.held[key(p)] = Clone(p)
	return true
}

// Has tells whether one is there that is 0 to p by Compare.
func (s *Set) Has(p api.Partial) bool {
	_, ok := s.partials()[key(p)]
	return ok
}

// Len is how many there are.
func (s *Set) Len() int { return len(s.partials()) }

// All goes through those that are there now, rising by Compare.
func (s *Set) All() iter.Seq[api.Partial] {
	return clones(slices.Values(slices.SortedFunc(maps.Values(s.partials()), Compare)))
}

// clones goes through partial matches, each in memory of its own.
func clones(partials iter.Seq[api.Partial]) iter.Seq[api.Partial] {
	return func(yield func(api.Partial) bool) {
		for p := range partials {
			if !yield(Clone(p)) {
				return
			}
		}
	}
}

// Same tells whether two sets have the same, by Compare.
func (s *Set) Same(o *Set) bool {
	if s.Len() != o.Len() {
		return false
	}
	for k := range s.partials() {
		if _, ok := o.partials()[k]; !ok {
			return false
		}
	}
	return true
}

// Clone is the same set, going its own way.
func (s *Set) Clone() *Set {
	if !s.isMade() {
		return nil
	}
	return &Set{held: maps.Clone(s.held)}
}

func (s *Set) isMade() bool { return s.partials() != nil }

// partials are what a set holds: none, if no call made it.
func (s *Set) partials() map[string]api.Partial {
	if s == nil {
		return nil
	}
	return s.held
}

// key is the same text of two partial matches just if they are 0 to each other by Compare. How long a variable is stands ahead of it, so that nothing in it can be taken for what stands behind it.
func key(p api.Partial) string {
	var k []byte
	for _, b := range p.Bounds {
		k = strconv.AppendInt(k, int64(len(b.Var)), 10)
		k = append(k, ':')
		k = append(k, b.Var...)
		k = strconv.AppendInt(k, int64(b.Event.ID.Source), 10)
		k = append(k, '.')
		k = strconv.AppendInt(k, b.Event.ID.Seq, 10)
		k = append(k, ';')
	}
	return string(k)
}
