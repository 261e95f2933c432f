package syntax

import (
	"eyrie/api"
	"eyrie/value"
)

// writer puts words, one behind the other, of what words say.
type writer struct {
	words []api.Token
}

func (w *writer) name(s string) { w.words = append(w.words, api.Token{Kind: api.TkName, Text: s}) }

func (w *writer) symbol(s string) { w.words = append(w.words, api.Token{Kind: api.TkSym, Text: s}) }

func (w *writer) value(v api.Value) {
	kind := api.TkInt
	if v.Kind == api.VStr {
		kind = api.TkStr
	}
	w.words = append(w.words, api.Token{Kind: kind, Text: value.Text(v), Value: v})
}

func (w *writer) pattern(p api.Pattern) {
	w.name("pattern")
	w.name(p.Name)
	w.name("within")
	w.value(api.Value{Kind: api.VInt, N: p.Window})
	w.symbol(":")
	w.tree(&p.Root)
	if len(p.Where) > 0 {
		w.name("where")
		w.conds(p.Where)
	}
}

func (w *writer) tree(n *api.Node) {
	if n.Kind == api.NdTerm {
		w.term(n)
		return
	}
	for i := range n.Kids {
		if i > 0 {
			w.symbol(sign(n.Kind))
		}
		w.kid(&n.Kids[i], n.Kind)
	}
}

// kid puts a kid of a node of a kind.
func (w *writer) kid(n *api.Node, kind int) {
	if tightness(n.Kind) > tightness(kind) {
		w.tree(n)
		return
	}
	w.symbol("(")
	w.tree(n)
	w.symbol(")")
}

func (w *writer) term(n *api.Node) {
	w.name(n.Type)
	w.name("as")
	w.name(n.Var)
	if len(n.Tests) > 0 {
		w.symbol("[")
		w.conds(n.Tests)
		w.symbol("]")
	}
}

func (w *writer) conds(l []api.Cond) {
	for i, c := range l {
		if i > 0 {
			w.symbol(",")
		}
		w.cond(c)
	}
}

func (w *writer) cond(c api.Cond) {
	w.side(c.Left)
	word, _ := relation(c.Rel)
	w.symbol(word)
	w.side(c.Right)
}

func (w *writer) side(o api.Operand) {
	if o.Attr == "" {
		w.value(o.Value)
		return
	}
	if o.Var != "" {
		w.name(o.Var)
		w.symbol(".")
	}
	w.name(o.Attr)
}

// sign is the word between two kids of a node of a kind.
func sign(kind int) string {
	switch kind {
	case api.NdOr:
		return "|"
	case api.NdSeq:
		return ";"
	}
	return "&"
}

// tightness is how tightly a node of a kind holds together: in one that holds as tightly, or more so, it needs brackets.
func tightness(kind int) int {
	switch kind {
	case api.NdOr:
		return 1
	case api.NdSeq:
		return 2
	case api.NdAnd:
		return 3
	}
	return 4
}
