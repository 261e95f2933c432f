package oper

import (
	"eyrie/api"
	"eyrie/bits"
	"eyrie/match"
	"eyrie/water"
)

// Snapshot is the operator's state as bytes. All of it has its place, so that the errors of what is put say nothing here.
func (x *Oper) Snapshot() ([]byte, api.Errno) {
	if !x.isMade() {
		return nil, api.ErrMade
	}
	s := bits.NewSink()
	for _, t := range x.marks.Marks() {
		s.Nat(uint64(t))
	}
	for i := range x.op.Inputs {
		s.Nat(uint64(x.Kept(i)))
		for p := range x.All(i) {
			match.Put(s, p)
		}
	}
	return s.Out(), api.OK
}

// Restore is an operator with a state of bytes.
func Restore(o api.Op, b []byte) (*Oper, api.Errno) {
	x, err := New(o)
	if err != api.OK {
		return nil, err
	}
	s := bits.NewSource(b)
	if err := x.takeMarks(s); err != api.OK {
		return nil, err
	}
	for i := range x.op.Inputs {
		if err := x.takeKept(s, i); err != api.OK {
			return nil, err
		}
	}
	if err := s.End(); err != api.OK {
		return nil, err
	}
	return x, api.OK
}

// takeMarks takes the marks of an operator that has seen nothing.
func (x *Oper) takeMarks(s *bits.Source) api.Errno {
	marks := make([]int64, x.op.Inputs)
	for i := range marks {
		t, err := s.Nat()
		if err != api.OK {
			return err
		}
		if t > api.Forever {
			return api.ErrState
		}
		marks[i] = int64(t)
	}
	var err api.Errno
	x.marks, err = water.From(marks...)
	return err
}

// takeKept takes what is kept of an input, of which nothing is kept yet.
func (x *Oper) takeKept(s *bits.Source, input int) api.Errno {
	many, err := s.Nat()
	if err != api.OK {
		return err
	}
	if many > api.MaxStore {
		return api.ErrState
	}
	for range many {
		p, err := match.Take(s)
		if err != api.OK {
			return err
		}
		next := store(p)
		if !x.mayKeep(input, next) {
			return api.ErrState
		}
		x.keep(input, len(x.kept[input]), next)
	}
	return api.OK
}

// mayKeep tells whether a partial match may be kept of an input behind those that are.
func (x *Oper) mayKeep(input int, s *stored) bool {
	if !x.keeps(input) || isRaw(s.p) || s.begin < x.horizon() || !x.hasRoom(input, s) {
		return false
	}
	l := x.kept[input]
	return len(l) == 0 || match.Compare(l[len(l)-1].p, s.p) < 0
}

// keeps tells whether the operator keeps anything of an input.
func (x *Oper) keeps(input int) bool {
	switch x.op.Kind {
	case api.OpTerm:
		return false
	case api.OpOr, api.OpRoot:
		return input == 0
	}
	return true
}
