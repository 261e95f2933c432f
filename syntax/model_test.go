package syntax_test

import (
	"slices"
	"strings"

	"eyrie/api"
	"eyrie/lex"
	"eyrie/value"
)

// The chapter's table, a line each way that a thing may be: what may be left out is written with it and without it, what may stand often begins with the thing itself.
const table = `
pattern: "pattern" name "within" int ":" expr
pattern: "pattern" name "within" int ":" expr "where" conds
expr: seqs
expr: expr "|" seqs
seqs: ands
seqs: seqs ";" ands
ands: one
ands: ands "&" one
one: term
one: "(" expr ")"
term: name "as" name
term: name "as" name "[" conds "]"
conds: cond
conds: conds "," cond
cond: side rel side
side: name "." name
side: name
side: int
side: string
rel: "="
rel: "!="
rel: "<"
rel: "<="
rel: ">"
rel: ">="
`

// rules are the table by things: of each its ways, each of parts.
var rules = func() map[string][][]string {
	m := map[string][][]string{}
	for line := range strings.Lines(strings.TrimSpace(table)) {
		thing, parts, _ := strings.Cut(line, ": ")
		m[thing] = append(m[thing], strings.Fields(parts))
	}
	return m
}()

// is tells whether a word is a part of the table.
func is(w api.Token, part string) bool {
	switch part {
	case "name":
		return w.Kind == api.TkName
	case "int":
		return w.Kind == api.TkInt
	case "string":
		return w.Kind == api.TkStr
	}
	return part == `"`+w.Text+`"` && w.Kind != api.TkStr
}

// item is a way of the table, gone through up to Dot, that begins at the word From.
type item struct {
	thing     string
	way       int
	dot, from int
}

func (i item) next() string {
	if parts := rules[i.thing][i.way]; i.dot < len(parts) {
		return parts[i.dot]
	}
	return ""
}

// closed is all items that follow from some, of which sets has those of the words ahead (Earley's way).
func closed(l []item, sets [][]item) []item {
	has := map[item]bool{}
	for _, i := range l {
		has[i] = true
	}
	add := func(i item) {
		if !has[i] {
			has[i] = true
			l = append(l, i)
		}
	}
	for at := 0; at < len(l); at++ {
		i := l[at]
		for way := range rules[i.next()] {
			add(item{i.next(), way, 0, len(sets)})
		}
		if i.next() == "" && i.from < len(sets) {
			for _, j := range sets[i.from] {
				if j.next() == i.thing {
					add(item{j.thing, j.way, j.dot + 1, j.from})
				}
			}
		}
	}
	return l
}

// goes is how many words go on as a thing, and whether these are one, whole.
func goes(thing string, words []api.Token) (int, bool) {
	var l []item
	for way := range rules[thing] {
		l = append(l, item{thing, way, 0, 0})
	}
	sets := [][]item{closed(l, nil)}
	for n, w := range words {
		l = nil
		for _, i := range sets[n] {
			if is(w, i.next()) {
				l = append(l, item{i.thing, i.way, i.dot + 1, i.from})
			}
		}
		if l == nil {
			return n, false
		}
		sets = append(sets, closed(l, sets))
	}
	return len(words), slices.ContainsFunc(sets[len(words)], func(i item) bool { return i.thing == thing && i.from == 0 && i.next() == "" })
}

// model is the words of a text, or the place and the error that reading it as a thing should answer.
func model(thing, text string) ([]api.Token, int, api.Errno) {
	l, at, err := lex.Scan(text)
	if err != api.OK {
		return nil, at, err
	}
	n, whole := goes(thing, l)
	switch {
	case n < len(l):
		return nil, l[n].At, api.ErrSyntax
	case !whole:
		return nil, len(text), api.ErrSyntax
	}
	return l, 0, api.OK
}

// The things that words say which goes takes, found by their signs instead of one word behind the other.

// parted is words parted at each sign that stands outside of all brackets.
func parted(l []api.Token, sign string) [][]api.Token {
	var parts [][]api.Token
	deep, from := 0, 0
	for i, w := range l {
		switch w.Text {
		case "(", "[":
			deep++
		case ")", "]":
			deep--
		case sign:
			if deep == 0 {
				parts = append(parts, l[from:i])
				from = i + 1
			}
		}
	}
	return append(parts, l[from:])
}

func modelExpr(l []api.Token) api.Node {
	for _, k := range []struct {
		sign string
		kind int
	}{{"|", api.NdOr}, {";", api.NdSeq}, {"&", api.NdAnd}} {
		if parts := parted(l, k.sign); len(parts) > 1 {
			n := api.Node{Kind: k.kind}
			for _, part := range parts {
				n.Kids = append(n.Kids, modelExpr(part))
			}
			return n
		}
	}
	if l[0].Text == "(" {
		return modelExpr(l[1 : len(l)-1])
	}
	n := api.Node{Kind: api.NdTerm, Type: l[0].Text, Var: l[2].Text}
	if len(l) > 3 {
		n.Tests = modelConds(l[4 : len(l)-1])
	}
	return n
}

func modelConds(l []api.Token) []api.Cond {
	var conds []api.Cond
	for _, part := range parted(l, ",") {
		at := slices.IndexFunc(part, func(w api.Token) bool { return modelRel(w.Text) > 0 })
		conds = append(conds, api.Cond{Left: modelSide(part[:at]), Rel: modelRel(part[at].Text), Right: modelSide(part[at+1:])})
	}
	return conds
}

func modelRel(word string) int {
	return 1 + slices.Index([]string{"=", "!=", "<", "<=", ">", ">="}, word)
}

func modelSide(l []api.Token) api.Operand {
	switch {
	case len(l) == 3:
		return api.Operand{Var: l[0].Text, Attr: l[2].Text}
	case l[0].Kind == api.TkName:
		return api.Operand{Attr: l[0].Text}
	}
	return api.Operand{Value: l[0].Value}
}

// exprEnd is how many words the expr has that l begins with: a where may be a name in it.
func exprEnd(l []api.Token) int {
	for at := 0; ; at++ {
		for l[at].Text == "(" {
			at++
		}
		at += 3
		if at < len(l) && l[at].Text == "[" {
			for l[at].Text != "]" {
				at++
			}
			at++
		}
		for at < len(l) && l[at].Text == ")" {
			at++
		}
		if at == len(l) || l[at].Kind != api.TkSym {
			return at
		}
	}
}

func modelPattern(l []api.Token) api.Pattern {
	p := api.Pattern{Name: l[1].Text, Window: l[3].Value.N}
	l = l[5:]
	end := exprEnd(l)
	p.Root = modelExpr(l[:end])
	if end < len(l) {
		p.Where = modelConds(l[end+1:])
	}
	return p
}

// Texts, written as the chapter says, without regard to their length.

func treeText(n api.Node) string {
	if n.Kind == api.NdTerm {
		s := n.Type + " as " + n.Var
		if len(n.Tests) > 0 {
			s += " [ " + condsText(n.Tests) + " ]"
		}
		return s
	}
	var l []string
	for _, k := range n.Kids {
		s := treeText(k)
		if needBrackets(k.Kind, n.Kind) {
			s = "( " + s + " )"
		}
		l = append(l, s)
	}
	return strings.Join(l, " "+modelSign(n.Kind)+" ")
}

func modelSign(kind int) string {
	return map[int]string{api.NdSeq: ";", api.NdAnd: "&", api.NdOr: "|"}[kind]
}

// needBrackets tells whether brackets stand round a kid of a kind.
func needBrackets(kid, kind int) bool {
	switch [2]int{kid, kind} {
	case [2]int{api.NdSeq, api.NdSeq}, [2]int{api.NdAnd, api.NdAnd}, [2]int{api.NdOr, api.NdOr},
		[2]int{api.NdOr, api.NdSeq}, [2]int{api.NdOr, api.NdAnd}, [2]int{api.NdSeq, api.NdAnd}:
		return true
	}
	return false
}

func condsText(l []api.Cond) string {
	var texts []string
	for _, c := range l {
		texts = append(texts, sideText(c.Left)+" "+[]string{"", "=", "!=", "<", "<=", ">", ">="}[c.Rel]+" "+sideText(c.Right))
	}
	return strings.Join(texts, " , ")
}

func sideText(o api.Operand) string {
	switch {
	case o.Var != "":
		return o.Var + " . " + o.Attr
	case o.Attr != "":
		return o.Attr
	}
	return value.Text(o.Value)
}

func patternText(p api.Pattern) string {
	s := "pattern " + p.Name + " within " + value.Text(api.Value{Kind: api.VInt, N: p.Window}) + " : " + treeText(p.Root)
	if len(p.Where) > 0 {
		s += " where " + condsText(p.Where)
	}
	return s
}
