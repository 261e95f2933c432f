package syntax

import (
	"slices"

	"eyrie/api"
	"eyrie/lex"
)

// reader takes the words of a text, one behind the other. At the first one with which nothing goes on it gives up, by a panic with its place.
type reader struct {
	words []api.Token // those that are left
	end   int         // the text's length
}

// place is where a reader gives up.
type place int

// read reads all of a text as one thing.
func read[T any](text string, thing func(*reader) T) (_ T, at int, err api.Errno) {
	words, at, err := lex.Scan(text)
	if err != api.OK {
		var none T
		return none, at, err
	}
	r := &reader{words: words, end: len(text)}
	defer func() {
		switch x := recover().(type) {
		case nil:
		case place:
			at, err = int(x), api.ErrSyntax
		default:
			// a fault of the program is not passed off as one of the text
			panic(x)
		}
	}()
	t := thing(r)
	if len(r.words) > 0 {
		panic(r.here())
	}
	return t, 0, api.OK
}

// here is the place of the next word.
func (r *reader) here() place {
	if len(r.words) == 0 {
		return place(r.end)
	}
	return place(r.words[0].At)
}

// stands tells whether the next word is this one. No two kinds of words have a text in common.
func (r *reader) stands(text string) bool { return len(r.words) > 0 && r.words[0].Text == text }

// skip takes the next word, if it is this one.
func (r *reader) skip(text string) bool {
	ok := r.stands(text)
	if ok {
		r.words = r.words[1:]
	}
	return ok
}

// want takes the next word, which must be this one.
func (r *reader) want(text string) {
	if !r.skip(text) {
		panic(r.here())
	}
}

// take takes the next word, which must be of one of these kinds.
func (r *reader) take(kinds ...int) api.Token {
	if len(r.words) == 0 || !slices.Contains(kinds, r.words[0].Kind) {
		panic(r.here())
	}
	t := r.words[0]
	r.words = r.words[1:]
	return t
}

func (r *reader) name() string { return r.take(api.TkName).Text }

func (r *reader) pattern() api.Pattern {
	var p api.Pattern
	r.want("pattern")
	p.Name = r.name()
	r.want("within")
	p.Window = r.take(api.TkInt).Value.N
	r.want(":")
	p.Root = r.expr()
	if r.skip("where") {
		p.Where = r.conds()
	}
	return p
}

func (r *reader) expr() api.Node { return r.row(api.NdOr, r.seqs) }

func (r *reader) seqs() api.Node { return r.row(api.NdSeq, r.ands) }

func (r *reader) ands() api.Node { return r.row(api.NdAnd, r.one) }

// row takes what a sign may put together: one alone is itself, several are the kids of a node.
func (r *reader) row(kind int, kid func() api.Node) api.Node {
	first := kid()
	if !r.stands(sign(kind)) {
		return first
	}
	n := api.Node{Kind: kind, Kids: []api.Node{first}}
	for r.skip(sign(kind)) {
		n.Kids = append(n.Kids, kid())
	}
	return n
}

func (r *reader) one() api.Node {
	if !r.skip("(") {
		return r.term()
	}
	n := r.expr()
	r.want(")")
	return n
}

func (r *reader) term() api.Node {
	n := api.Node{Kind: api.NdTerm}
	n.Type = r.name()
	r.want("as")
	n.Var = r.name()
	if r.skip("[") {
		n.Tests = r.conds()
		r.want("]")
	}
	return n
}

func (r *reader) conds() []api.Cond {
	l := []api.Cond{r.cond()}
	for r.skip(",") {
		l = append(l, r.cond())
	}
	return l
}

func (r *reader) cond() api.Cond {
	var c api.Cond
	c.Left = r.side()
	c.Rel = r.rel()
	c.Right = r.side()
	return c
}

func (r *reader) side() api.Operand {
	t := r.take(api.TkName, api.TkInt, api.TkStr)
	if t.Kind != api.TkName {
		return api.Operand{Value: t.Value}
	}
	if r.skip(".") {
		return api.Operand{Var: t.Text, Attr: r.name()}
	}
	return api.Operand{Attr: t.Text}
}

func (r *reader) rel() int {
	for word, rel := range relations() {
		if r.skip(word) {
			return rel
		}
	}
	panic(r.here())
}
