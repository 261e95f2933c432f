package oper

import (
	"eyrie/api"
	"eyrie/match"
	"eyrie/pred"
)

// doing is what an operator does with a partial match that may come on an input.
type doing func(x *Oper, input int, p api.Partial) ([]api.Partial, api.Errno)

// doings are what operators do, by their Kinds.
func doings() [api.OpRoot + 1]doing {
	return [...]doing{
		api.OpTerm: (*Oper).take,
		api.OpSeq:  (*Oper).join,
		api.OpAnd:  (*Oper).join,
		api.OpOr:   (*Oper).pass,
		api.OpRoot: (*Oper).pass,
	}
}

// passes tells whether a partial match lies within the window, and the conditions hold that can be asked of it.
func (x *Oper) passes(p api.Partial) bool {
	return match.Within(p, x.op.Window) && pred.All(x.op.Conds, p)
}

// take names a raw event by the term's variable, if the term takes it.
func (x *Oper) take(_ int, raw api.Partial) ([]api.Partial, api.Errno) {
	e := raw.Bounds[0].Event
	if !pred.Term(api.Node{Kind: api.NdTerm, Var: x.op.Var, Type: x.op.Type, Tests: x.op.Tests}, e) {
		return nil, api.OK
	}
	p, err := match.Of(x.op.Var, e)
	if err != api.OK {
		return nil, err
	}
	if !x.passes(p) {
		return nil, api.OK
	}
	return []api.Partial{p}, api.OK
}

// pass tells a partial match once, whichever input it comes on.
func (x *Oper) pass(_ int, p api.Partial) ([]api.Partial, api.Errno) {
	if !x.passes(p) {
		return nil, api.OK
	}
	at, there := x.find(0, p)
	if there {
		return nil, api.OK
	}
	s := store(p)
	if !x.hasRoom(0, s) {
		return nil, api.ErrFull
	}
	x.keep(0, at, s)
	return []api.Partial{match.Clone(p)}, api.OK
}

// join tells what comes of a partial match and one of each other input.
func (x *Oper) join(input int, p api.Partial) ([]api.Partial, api.Errno) {
	if !x.passes(p) {
		return nil, api.OK
	}
	at, there := x.find(input, p)
	s := store(p)
	if !there && !x.hasRoom(input, s) {
		return nil, api.ErrFull
	}
	told, ok := x.joined(input, s)
	if !ok {
		return nil, api.ErrFull
	}
	if !there {
		x.keep(input, at, s)
	}
	return told, api.OK
}
