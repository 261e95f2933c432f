package syntax_test

import (
	"math"
	"slices"
	"strings"
	"testing"

	"eyrie/api"
	"eyrie/lex"
	"eyrie/syntax"
)

// P6.1

func TestExamples(t *testing.T) {
	wantPattern(t, "pattern p within 10 : A as a [ x > 3 ] ; B as b where a . x = b . x",
		pattern("p", 10, seq(term("A", "a", cond(own("x"), api.RelGt, num(3))), b()), cond(of("a", "x"), api.RelEq, of("b", "x"))))
	wantTree(t, "A as a | B as b ; C as c & D as d", or(a(), seq(b(), and(c(), d()))))
	wantTree(t, "( A as a ; B as b ) ; C as c", seq(seq(a(), b()), c()))
	wantNoExpr(t, "A as a ;", 8, api.ErrSyntax)
}

func TestPatterns(t *testing.T) {
	wantPattern(t, "pattern p within 5 : A as a ; B as b", pattern("p", 5, seq(a(), b())))
	wantPattern(t, "pattern p within 5:A as a", pattern("p", 5, a()))
	wantPattern(t, "pattern Long_1 within 7: # all of it\n\tA as a[x>3,y!=\"me\"];(B as b|C as c)\r\nwhere a.x<=b.x,c.y=\"# no comment\" # end",
		pattern("Long_1", 7, seq(term("A", "a", cond(own("x"), api.RelGt, num(3)), cond(own("y"), api.RelNe, str("me"))), or(b(), c())),
			cond(of("a", "x"), api.RelLe, of("b", "x")), cond(of("c", "y"), api.RelEq, str("# no comment"))))
	wantPattern(t, "pattern p within 1 : ( A as a & B as b [ z < -1 ] ) | C as c where 1 = 1",
		pattern("p", 1, or(and(a(), term("B", "b", cond(own("z"), api.RelLt, num(-1)))), c()), cond(num(1), api.RelEq, num(1))))
	// what chapter 7 refuses is read, too
	for _, n := range windows() {
		text := "pattern p within " + sideText(num(n)) + " : A as a"
		wantPattern(t, text, pattern("p", n, a()))
	}
	wantPattern(t, "pattern p within 0 : A as a ; A as a where z . q = 3", pattern("p", 0, seq(a(), a()), cond(of("z", "q"), api.RelEq, num(3))))
}

// full is a pattern, and how many of its words, from the first one on, are a pattern by themselves.
type full struct {
	text  string
	whole []int
}

// fulls have each word that a pattern may have.
func fulls() []full {
	return []full{
		{"pattern p within 10 : A as a [ x > 3 ] ; B as b where a . x = b . x", []int{8, 13, 17, 23, 25}},
		{"pattern p within -1 : ( A as a [ a . x > \"s\" , 1 <= y ] | ( ( B as b ) ) ; C as c ) & ( D as d ) where 1 = x , \"s\" != a . x , y < z", []int{33, 39, 43, 47, 49, 53}},
		{"pattern pattern within 0 : as as as & where as where | within as within where where . where >= where , as = as", []int{8, 12, 16, 22, 26}},
		{"pattern p within 3 : A as a", []int{8}},
	}
}

// Words that end too early, at each word of a pattern: the place is the text's length, whatever blanks stand behind the last word.
func TestEndsTooEarly(t *testing.T) {
	for _, f := range fulls() {
		l := scanned(t, f.text)
		for n := range len(l) + 1 {
			part := ""
			if n > 0 {
				part = f.text[:l[n-1].At+len(l[n-1].Text)]
			}
			for _, behind := range []string{"", " ", "\n\t\r  ", "# a comment", "  # a comment\n", "#\n#\n#", " # where x = 1"} {
				if slices.Contains(f.whole, n) {
					wantPattern(t, part+behind, modelPattern(l[:n]))
				} else {
					wantNoPattern(t, part+behind, len(part+behind), api.ErrSyntax)
				}
			}
		}
	}
	wantNoPattern(t, "", 0, api.ErrSyntax)
	wantNoExpr(t, "", 0, api.ErrSyntax)
	wantNoConds(t, "", 0, api.ErrSyntax)
	for _, s := range []string{" ", "# a", "\n\n", "#\n"} {
		wantNoPattern(t, s, len(s), api.ErrSyntax)
		wantNoExpr(t, s, len(s), api.ErrSyntax)
		wantNoConds(t, s, len(s), api.ErrSyntax)
	}
	for _, s := range []string{"A", "A as", "A as a [", "A as a [ x", "A as a [ x =", "A as a [ x = 1", "A as a [ x = 1 ,", "A as a [ x = a . ", "A as a |", "A as a ; ", "A as a &", "(", "( A as a", "( A as a ; ( B as b )", "A as a ; # B as b"} {
		wantNoTree(t, s, len(s))
	}
	for _, s := range []string{"x", "x . ", "x . y", "x =", "1", "1 <= ", "\"s\"", "x = 1 , ", "x = y .", "x = 1 , y", "x = 1 , y >", "x = # 1"} {
		wantNone(t, s, len(s))
	}
}

// A word too many, behind a whole pattern, expr and conds.
func TestTooMany(t *testing.T) {
	for _, w := range []string{"A", "as", "pattern", "within", "1", "-1", `"s"`, "(", ")", "]", ":", ".", ",", "=", "!=", "<", "<=", ">", ">="} {
		for _, behind := range []string{"", " ", " # c", " B as b", " ) ] where x = 1"} {
			wantNoPattern(t, "pattern p within 10 : A as a "+w+behind, 29, api.ErrSyntax)
			wantNoPattern(t, "pattern p within 10 : ( A as a ) "+w+behind, 33, api.ErrSyntax)
			wantNoPattern(t, "pattern p within 10 : A as a [ x = 1 ] "+w+behind, 39, api.ErrSyntax)
			wantNoExpr(t, "A as a "+w+behind, 7, api.ErrSyntax)
			wantNoExpr(t, "A as a;B as b "+w+behind, 14, api.ErrSyntax)
		}
	}
	for _, w := range []string{"A", "as", "where", "1", `"s"`, "(", ")", "[", "]", ":", ";", "&", "|", "=", "!=", "<", "<=", ">", ">="} {
		for _, behind := range []string{"", " ", " # c", " x = 1", " , x = 1"} {
			wantNoPattern(t, "pattern p within 10 : A as a where x = 1 "+w+behind, 41, api.ErrSyntax)
			wantNoPattern(t, "pattern p within 10 : A as a where x = b . y "+w+behind, 45, api.ErrSyntax)
			wantNoConds(t, "x = 1 "+w+behind, 6, api.ErrSyntax)
			wantNoConds(t, "x = 1 , a . x != \"s\" "+w+behind, 21, api.ErrSyntax)
		}
	}
	// a where is none of an expr's
	wantNoExpr(t, "A as a where x = 1", 7, api.ErrSyntax)
	wantNoExpr(t, "( A as a where x = 1 )", 9, api.ErrSyntax)
	wantNoPattern(t, "pattern p within 10 : ( A as a where x = 1 )", 31, api.ErrSyntax)
	wantNoPattern(t, "pattern p within 10 : A as a [ x = 1 ] [ x = 1 ]", 39, api.ErrSyntax)
	wantNoPattern(t, "pattern p within 10 : ( A as a ) [ x = 1 ]", 33, api.ErrSyntax)
	wantNoPattern(t, "pattern p within 10 : A as a pattern q within 10 : B as b", 29, api.ErrSyntax)
}

// What lex.Scan refuses, with its place, whatever the words ahead of it are.
func TestLexRefuses(t *testing.T) {
	refuse := func(text string, place int, want api.Errno) {
		t.Helper()
		wantNoPattern(t, text, place, want)
		wantNoExpr(t, text, place, want)
		wantNoConds(t, text, place, want)
	}
	texts := []string{"A as a", "x = 1", "A as a ; ; B", ") ) )", "1 2 3"}
	for _, f := range fulls() {
		texts = append(texts, f.text)
	}
	for _, text := range texts {
		for _, bad := range []string{"!", "\x00", "?", "{", "\xff"} {
			refuse(bad+text, 0, api.ErrSyntax)
			refuse(bad+" "+text, 0, api.ErrSyntax)
			refuse(text+bad, len(text), api.ErrSyntax)
			refuse(text+" "+bad+" ", len(text)+1, api.ErrSyntax)
			for _, w := range scanned(t, text) {
				refuse(text[:w.At]+bad+" "+text[w.At:], w.At, api.ErrSyntax)
			}
		}
		for _, bad := range []string{"01", "-", `"`, `"\n"`, "9223372036854775808", strings.Repeat("a", api.MaxName+1)} {
			refuse(text+" "+bad, len(text)+1, api.ErrSyntax)
		}
		// too long, whatever else there is
		long := text + strings.Repeat(" ", api.MaxPattern+1-len(text))
		refuse(long, 0, api.ErrLong)
		refuse("!"+long, 0, api.ErrLong)
		refuse(long+"!", 0, api.ErrLong)
		refuse(strings.Repeat(text, api.MaxPattern), 0, api.ErrLong)
	}
	refuse(strings.Repeat(" ", api.MaxPattern+1), 0, api.ErrLong)
	refuse(strings.Repeat("(", 1<<20), 0, api.ErrLong)
	text := ahead + "A as a"
	wantPattern(t, text+strings.Repeat(" ", api.MaxPattern-len(text)), pattern("p", 10, a()))
	wantNoPattern(t, strings.Repeat(" ", api.MaxPattern), api.MaxPattern, api.ErrSyntax)
}

// pattern, within, as and where are names like others, where a name is asked for; and where they are asked for, nothing else is.
func TestWordsAsNames(t *testing.T) {
	for _, w := range []string{"pattern", "within", "as", "where", "a", "_", "Where", "AS"} {
		wantPattern(t, "pattern "+w+" within 10 : A as a", pattern(w, 10, a()))
		wantPattern(t, "pattern "+w+" within 10 : "+w+" as "+w+" ["+w+"="+w+"."+w+"] where "+w+"."+w+"="+w,
			pattern(w, 10, term(w, w, cond(own(w), api.RelEq, of(w, w))), cond(of(w, w), api.RelEq, own(w))))
		wantTree(t, w+" as a", term(w, "a"))
		wantTree(t, "A as "+w, term("A", w))
		wantTree(t, w+" as "+w+";"+w+" as "+w, seq(term(w, w), term(w, w)))
		wantAll(t, w+".x="+w, cond(of(w, "x"), api.RelEq, own(w)))
		wantAll(t, "x."+w+"<"+w+"."+w, cond(of("x", w), api.RelLt, of(w, w)))
		if w != "pattern" {
			wantNoPattern(t, w+" p within 10 : A as a", 0, api.ErrSyntax)
		}
		if w != "within" {
			wantNoPattern(t, "pattern p "+w+" 10 : A as a", 10, api.ErrSyntax)
		}
		if w != "as" {
			wantNoTree(t, "A "+w+" a", 2)
		}
		if w != "where" {
			wantNoPattern(t, "pattern p within 10 : A as a "+w+" x = 1", 29, api.ErrSyntax)
		}
	}
	// a string is no word of these
	wantNoPattern(t, `"pattern" p within 10 : A as a`, 0, api.ErrSyntax)
	wantNoPattern(t, `pattern p "within" 10 : A as a`, 10, api.ErrSyntax)
	wantNoPattern(t, `pattern p within 10 ":" A as a`, 20, api.ErrSyntax)
	wantNoPattern(t, `pattern p within 10 : A as a "where" x = 1`, 29, api.ErrSyntax)
	wantNoTree(t, `A "as" a`, 2)
	wantNoTree(t, `A as a ";" B as b`, 7)
	wantNoTree(t, `"(" A as a )`, 0)
	wantNone(t, `x "=" 1`, 2)
	wantNone(t, `x = 1 "," x = 1`, 6)
}

// Each place where a name, or an int, is asked for, with a word that is none.
func TestOtherKinds(t *testing.T) {
	others := []string{"1", "-1", `"a"`, "(", ")", "[", "]", ",", ".", ";", "&", "|", ":", "=", "!=", "<", "<=", ">", ">="}
	for _, w := range others {
		wantNoPattern(t, w+" p within 10 : A as a", 0, api.ErrSyntax)
		wantNoPattern(t, "pattern "+w+" within 10 : A as a", 8, api.ErrSyntax)
		wantNoPattern(t, "pattern p "+w+" 10 : A as a", 10, api.ErrSyntax)
		if w != ":" {
			wantNoPattern(t, "pattern p within 10 "+w+" A as a", 20, api.ErrSyntax)
		}
		if w != "(" {
			wantNoTree(t, w+" as a", 0)
			wantNoTree(t, "A as a ; "+w+" as b", 9)
			wantNoTree(t, "A as a | ( "+w+" as b )", 11)
		}
		wantNoTree(t, "A "+w+" a", 2)
		wantNoTree(t, "A as "+w, 5)
		wantNone(t, "x = a . "+w, 8)
		wantNone(t, "x . "+w+" = 1", 4)
		if w != "1" && w != "-1" && w != `"a"` {
			wantNone(t, w+" = 1", 0)
			wantNone(t, "x = "+w, 4)
		}
		if modelRel(w) == 0 && w != "." {
			wantNone(t, "x "+w+" 1", 2)
			wantNone(t, "a . x "+w+" 1", 6)
			wantNone(t, "1 "+w+" 1", 2)
		}
	}
	for _, w := range append(others[2:], "a", "within", "_1") {
		wantNoPattern(t, "pattern p within "+w+" : A as a", 17, api.ErrSyntax)
	}
}

func TestSides(t *testing.T) {
	sides := map[string]api.Operand{
		"x": own("x"), "a . x": of("a", "x"), "a.x": of("a", "x"), "0": num(0), "-5": num(-5), `""`: str(""), `"a . x"`: str("a . x"), `"\"\\\x00"`: str("\"\\\x00"),
		"9223372036854775807": num(math.MaxInt64), "-9223372036854775808": num(math.MinInt64),
	}
	for left, l := range sides {
		for right, r := range sides {
			for i, rel := range []string{"=", "!=", "<", "<=", ">", ">="} {
				wantAll(t, left+" "+rel+" "+right, cond(l, i+1, r))
				wantAll(t, left+rel+right+","+right+rel+left, cond(l, i+1, r), cond(r, i+1, l))
			}
		}
	}
	// what is no name has no attribute
	wantNone(t, "1 . x = 1", 2)
	wantNone(t, `"s" . x = 1`, 4)
	wantNone(t, "x = 1 . x", 6)
	wantNone(t, `x = "s" . x`, 8)
	// a name, a . and no name
	wantNone(t, "a . = 1", 4)
	wantNone(t, "a . 1 = 1", 4)
	wantNone(t, `a . "x" = 1`, 4)
	wantNone(t, "a . . x = 1", 4)
	wantNone(t, "x = a . , y = 1", 8)
	wantNone(t, "x = a .", 7)
	// of three names just two go on
	wantNone(t, "a . b . c = 1", 6)
	wantNone(t, "x = a . b . c", 10)
	// one relation
	wantNone(t, "x = = 1", 4)
	wantNone(t, "x < = 1", 4)
	wantNone(t, "x == 1", 3)
	wantNone(t, "x = y = z", 6)
	wantNone(t, "= 1", 0)
	wantNone(t, "x 1", 2)
	wantNone(t, "x y", 2)
}

func TestTests(t *testing.T) {
	wantTree(t, "A as a [ x = 1 ]", term("A", "a", one()))
	wantTree(t, "A as a[x=1,x=1,b.y>=\"s\"]", term("A", "a", one(), one(), cond(of("b", "y"), api.RelGe, str("s"))))
	wantTree(t, "A as a [ x = 1 ] ; B as b [ y < 2 ] & C as c", seq(term("A", "a", one()), and(term("B", "b", cond(own("y"), api.RelLt, num(2))), c())))
	var many []api.Cond
	for i := range 100 {
		many = append(many, cond(own("x"), 1+i%6, num(int64(i))))
	}
	wantAll(t, condsText(many), many...)
	wantNoTree(t, "A as a [ ]", 9)
	wantNoTree(t, "A as a []", 8)
	wantNoTree(t, "A as a [ ] ; B as b", 9)
	wantNoTree(t, "A as a [ , x = 1 ]", 9)
	wantNoTree(t, "A as a [ x = 1 , ]", 17)
	wantNoTree(t, "A as a [ x = 1 , , x = 1 ]", 17)
	wantNoTree(t, "A as a [ x = 1 ; B as b", 15)
	wantNoTree(t, "A as a [ x = 1 )", 15)
	wantNoTree(t, "A as a [ x = 1 where x = 1", 15)
	wantNoTree(t, "A as a [ ( x = 1 ) ]", 9)
	wantNoTree(t, "A as a [ [ x = 1 ] ]", 9)
	wantNoTree(t, "A [ x = 1 ] as a", 2)
}

func TestWhere(t *testing.T) {
	wantPattern(t, ahead+"A as a where x = 1", pattern("p", 10, a(), one()))
	wantPattern(t, ahead+"A as a where x = 1 , x = 1", pattern("p", 10, a(), one(), one()))
	wantPattern(t, ahead+"( A as a ) where x = 1", pattern("p", 10, a(), one()))
	wantPattern(t, ahead+"A as where where where = 1", pattern("p", 10, term("A", "where"), cond(own("where"), api.RelEq, num(1))))
	wantPattern(t, ahead+"A as a where as = 1", pattern("p", 10, a(), cond(own("as"), api.RelEq, num(1))))
	wantNoPattern(t, ahead+"A as a where", 34, api.ErrSyntax)
	wantNoPattern(t, ahead+"A as a where ", 35, api.ErrSyntax)
	wantNoPattern(t, ahead+"A as a where # x = 1", 42, api.ErrSyntax)
	wantNoPattern(t, ahead+"A as a where ; B as b", 35, api.ErrSyntax)
	wantNoPattern(t, ahead+"A as a where where x = 1", 41, api.ErrSyntax)
	wantNoPattern(t, ahead+"A as a where x = 1 where x = 1", 41, api.ErrSyntax)
	wantNoPattern(t, ahead+"A as a where [ x = 1 ]", 35, api.ErrSyntax)
	wantNoPattern(t, ahead+"where x = 1", 28, api.ErrSyntax)
	wantNoPattern(t, ahead, len(ahead), api.ErrSyntax)
}

func TestBrackets(t *testing.T) {
	for _, n := range []int{1, 2, 3, 50} {
		open, shut := strings.Repeat("(", n), strings.Repeat(")", n)
		wantTree(t, open+"A as a"+shut, a())
		wantTree(t, open+"A as a [ x = 1 ]"+shut, term("A", "a", one()))
		wantTree(t, open+"A as a ; B as b"+shut, seq(a(), b()))
		wantTree(t, open+"A as a & B as b"+shut, and(a(), b()))
		wantTree(t, open+"A as a | B as b"+shut, or(a(), b()))
		wantTree(t, open+"A as a | B as b ; C as c & D as d"+shut+"&"+open+"D as d"+shut, and(or(a(), seq(b(), and(c(), d()))), d()))
		wantTree(t, open+"A as a"+shut+";"+open+"B as b;C as c"+shut, seq(a(), seq(b(), c())))
		// not closed, closed too often
		wantNoTree(t, open+"A as a"+shut[1:], 2*n+5)
		wantNoTree(t, open+"A as a"+shut[1:]+"]", 2*n+5)
		wantNoTree(t, open+"A as a"+shut+")", 2*n+6)
		wantNoTree(t, open+shut, n)
		wantNoTree(t, open+"A as a ;"+shut, n+8)
		wantNoTree(t, open+"A as a [ x = 1 "+shut, n+15)
	}
	wantTree(t, "(A as a;B as b)", seq(a(), b()))
	wantNoTree(t, ")", 0)
	wantNoTree(t, "A as ( a )", 5)
	wantNoTree(t, "( A ) as a", 4)
	wantNoTree(t, "( A as a ) as b", 11)
	wantNoTree(t, "( A as a ) ( B as b )", 11)
	wantNoTree(t, "A as a ( B as b )", 7)
}

// Kids of each kind: one, two and many, also in brackets.
func TestKids(t *testing.T) {
	for kind, make := range map[string]func(...api.Node) api.Node{";": seq, "&": and, "|": or} {
		wantTree(t, "A as a "+kind+" B as b", make(a(), b()))
		wantTree(t, "A as a "+kind+" B as b "+kind+" A as a", make(a(), b(), a()))
		wantTree(t, "A as a "+kind+" ( B as b )", make(a(), b()))
		wantTree(t, "( A as a "+kind+" B as b ) "+kind+" C as c", make(make(a(), b()), c()))
		wantTree(t, "A as a "+kind+" ( B as b "+kind+" C as c )", make(a(), make(b(), c())))
		wantTree(t, "A as a "+kind+" ( B as b "+kind+" C as c ) "+kind+" D as d", make(a(), make(b(), c()), d()))
		wantTree(t, "( A as a "+kind+" B as b ) "+kind+" ( C as c "+kind+" D as d )", make(make(a(), b()), make(c(), d())))
		for other, within := range map[string]func(...api.Node) api.Node{";": seq, "&": and, "|": or} {
			wantTree(t, "( A as a "+other+" B as b ) "+kind+" C as c", make(within(a(), b()), c()))
			wantTree(t, "A as a "+kind+" ( B as b "+other+" C as c )", make(a(), within(b(), c())))
		}
		for _, n := range []int{3, 4, 100} {
			wantTree(t, strings.Repeat("A as a"+kind, n)+"B as b", make(append(slices.Repeat([]api.Node{a()}, n), b())...))
		}
		wantNoTree(t, kind, 0)
		wantNoTree(t, kind+" A as a", 0)
		wantNoTree(t, "A as a "+kind, 8)
		wantNoTree(t, "A as a "+kind+" "+kind+" B as b", 9)
		wantNoTree(t, "A as a "+kind+" B as b "+kind, 17)
	}
	// how tightly they hold
	wantTree(t, "A as a ; B as b | C as c", or(seq(a(), b()), c()))
	wantTree(t, "A as a | B as b ; C as c", or(a(), seq(b(), c())))
	wantTree(t, "A as a & B as b | C as c", or(and(a(), b()), c()))
	wantTree(t, "A as a | B as b & C as c", or(a(), and(b(), c())))
	wantTree(t, "A as a & B as b ; C as c", seq(and(a(), b()), c()))
	wantTree(t, "A as a ; B as b & C as c", seq(a(), and(b(), c())))
	wantTree(t, "A as a & B as b ; C as c & D as d | A as a ; B as b", or(seq(and(a(), b()), and(c(), d())), seq(a(), b())))
}

// wantModel asks that texts are read just as the table says; it tells whether the text is such a thing.
func wantModel(t *testing.T, thing, text string) bool {
	t.Helper()
	l, at, err := model(thing, text)
	switch thing {
	case "pattern":
		if err != api.OK {
			wantNoPattern(t, text, at, err)
		} else {
			wantPattern(t, text, modelPattern(l))
		}
	case "expr":
		if err != api.OK {
			wantNoExpr(t, text, at, err)
		} else {
			wantExpr(t, text, modelExpr(l))
		}
	case "conds":
		if err != api.OK {
			wantNoConds(t, text, at, err)
		} else {
			wantConds(t, text, modelConds(l)...)
		}
	}
	return err == api.OK
}

// Each way to go on, word by word, and each word that does not go on, with one more behind it.
func TestEachWord(t *testing.T) {
	vocabulary := []string{"pattern", "within", "as", "where", "a", "1", `"s"`, "(", ")", "[", "]", ",", ".", ";", "&", "|", ":", "=", "<="}
	for _, from := range []struct {
		thing, ahead string
		more         int
	}{
		{"pattern", "", 6}, {"pattern", "pattern p within 1 : A as a ", 4}, {"pattern", "pattern p within 1 : ( where as where ", 4}, {"pattern", "pattern p within 1 : A as a where x ", 4},
		{"expr", "", 5}, {"expr", "( A as a ", 4}, {"expr", "A as a [ x = 1 ", 4}, {"expr", "A as a [ ", 4},
		{"conds", "", 5}, {"conds", "x ", 5}, {"conds", "x = y ", 5},
	} {
		whole := 0
		var try func(text string, more int)
		try = func(text string, more int) {
			if wantModel(t, from.thing, text) {
				whole++
			}
			l, _, _ := lex.Scan(text)
			if n, _ := goes(from.thing, l); n < len(l) || more == 0 {
				wantModel(t, from.thing, text+" a")
				return
			}
			for _, w := range vocabulary {
				try(text+w+" ", more-1)
			}
		}
		try(from.ahead, from.more)
		if whole == 0 && from.thing != "pattern" {
			t.Errorf("%s %q: nothing is whole", from.thing, from.ahead)
		}
	}
}

// Texts by chance, whole ones and with some of their words left out, doubled, turned or put in.
func TestChangedTexts(t *testing.T) {
	r, whole := dice(), 0
	for range 3000 {
		l := scanned(t, someText(r))
		l = l[:min(len(l), 60)]
		for range r.IntN(3) {
			i, j := r.IntN(len(l)), r.IntN(len(l))
			switch r.IntN(4) {
			case 0:
				l = slices.Delete(l, i, i+1)
			case 1:
				l = slices.Insert(l, i, l[j])
			case 2:
				l[i], l[j] = l[j], l[i]
			case 3:
				l = l[:i+1]
			}
			if len(l) == 0 {
				l = scanned(t, "a")
			}
		}
		if wantModel(t, "pattern", spread(r, l)) {
			whole++
		}
		wantModel(t, "expr", spread(r, l[min(5, len(l)):]))
		wantModel(t, "conds", spread(r, l[r.IntN(len(l)):]))
	}
	for range 1500 {
		wantModel(t, "pattern", someText(r))
	}
	if whole < 500 || whole > 2500 {
		t.Errorf("%d are whole", whole)
	}
}

// No bytes make it panic.
func TestAnyBytes(t *testing.T) {
	r := dice()
	some := "pattern p within 1 : A as a [ x = \"s\" ] ; & | ( ) , . != <= -09 \\ # \n \xff \x00"
	for range 20000 {
		b := make([]byte, r.IntN(60))
		for i := range b {
			b[i] = some[r.IntN(len(some))]
		}
		for _, thing := range []string{"pattern", "expr", "conds"} {
			wantModel(t, thing, string(b))
		}
	}
	if _, at, err := syntax.Parse("pattern p within 1 : A as a ; \xff"); at != 30 || err != api.ErrSyntax {
		t.Errorf("place %d, error %d", at, err)
	}
}
