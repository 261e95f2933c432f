package lex_test

import (
	"iter"
	"math/rand/v2"
	"slices"
	"strings"
	"testing"

	"eyrie/api"
	"eyrie/lex"
)

// dice are the same at each run.
func dice() *rand.Rand { return rand.New(rand.NewPCG(50, 51)) }

// The words that a text should have: each of its kind, with its place.

func name(s string, at int) api.Token { return api.Token{Kind: api.TkName, Text: s, At: at} }

func sym(s string, at int) api.Token { return api.Token{Kind: api.TkSym, Text: s, At: at} }

func num(s string, n int64, at int) api.Token {
	return api.Token{Kind: api.TkInt, Text: s, Value: api.Value{Kind: api.VInt, N: n}, At: at}
}

// str is a word that says the string v.
func str(s, v string, at int) api.Token {
	return api.Token{Kind: api.TkStr, Text: s, Value: api.Value{Kind: api.VStr, S: v}, At: at}
}

// symbols are those of the chapter.
func symbols() []string {
	return strings.Fields("( ) [ ] , . ; & | : = != < <= > >=")
}

func listed(seq iter.Seq[api.Token]) []api.Token {
	var l []api.Token
	for t := range seq {
		l = append(l, t)
	}
	return l
}

// wantWalk asks that Walk tells just these words, each time, however far it is gone through.
func wantWalk(t *testing.T, text string, want []api.Token) {
	t.Helper()
	seq := lex.Walk(text)
	for range 2 {
		if l := listed(seq); !slices.Equal(l, want) {
			t.Errorf("Walk of %.200q: %v, not %v", text, l, want)
		}
	}
	for n := range min(len(want), 3) {
		var l []api.Token
		for w := range seq {
			l = append(l, w)
			if len(l) > n {
				break
			}
		}
		if !slices.Equal(l, want[:n+1]) {
			t.Errorf("Walk of %.200q, stopped: %v, not %v", text, l, want[:n+1])
		}
	}
}

// wantWords asks that a text has just these words.
func wantWords(t *testing.T, text string, want ...api.Token) {
	t.Helper()
	l, at, err := lex.Scan(text)
	if err != api.OK || at != 0 || !slices.Equal(l, want) {
		t.Errorf("%.200q: %v, place %d, error %d; not %v", text, l, at, err, want)
	}
	wantWalk(t, text, want)
}

// wantStop asks that no word stands at a place of a text, and that these stand ahead of it.
func wantStop(t *testing.T, text string, place int, ahead ...api.Token) {
	t.Helper()
	l, at, err := lex.Scan(text)
	if err != api.ErrSyntax || at != place || l != nil {
		t.Errorf("%.200q: %v, place %d, error %d; not place %d", text, l, at, err, place)
	}
	wantWalk(t, text, ahead)
}

// wantLong asks that a text is too long.
func wantLong(t *testing.T, text string) {
	t.Helper()
	l, at, err := lex.Scan(text)
	if err != api.ErrLong || at != 0 || l != nil {
		t.Errorf("%.100q, %d bytes: %d words, place %d, error %d", text, len(text), len(l), at, err)
	}
	wantWalk(t, text, nil)
}

// texts calls do with each text of at most n of these pieces.
func texts(n int, pieces []string, do func(string)) {
	var from func(s string, left int)
	from = func(s string, left int) {
		do(s)
		if left == 0 {
			return
		}
		for _, p := range pieces {
			from(s+p, left-1)
		}
	}
	from("", n)
}

// noise is n bytes of any sort.
func noise(r *rand.Rand, n int) string {
	b := make([]byte, n)
	for i := range b {
		b[i] = byte(r.Uint32())
	}
	return string(b)
}

// someWord is a word that may be, by chance, at place 0.
func someWord(r *rand.Rand) api.Token {
	for {
		s := ""
		switch r.IntN(4) {
		case 0:
			s = someName(r)
		case 1:
			s = big(int64(r.Uint64()) >> r.IntN(64))
		case 2:
			s = quote(noise(r, r.IntN(api.MaxString+1)>>r.IntN(7)))
		case 3:
			s = symbols()[r.IntN(len(symbols()))]
		}
		if l, _, err := model(s); err == api.OK && len(l) == 1 {
			return l[0]
		}
	}
}

func someName(r *rand.Rand) string {
	const some = "abcxyzABCXYZ_0189"
	b := []byte{some[r.IntN(13)]}
	for range r.IntN(api.MaxName) >> r.IntN(6) {
		b = append(b, some[r.IntN(len(some))])
	}
	return string(b)
}

// someBlank is blanks, by chance; perhaps none, if none need be there.
func someBlank(r *rand.Rand, need bool) string {
	s := ""
	for r.IntN(2) == 0 || need && s == "" {
		s += []string{" ", "\t", "\n", "\r", "#\n", "# a \"b\" 'c'\n", "#\xff#\r\n", "# 1a ! \\\n"}[r.IntN(8)]
	}
	return s
}
