package lex

import (
	"strings"

	"eyrie/api"
	"eyrie/value"
)

const (
	digits  = "0123456789"
	letters = "ABCDEFGHIJKLMNOPQRSTUVWXYZabcdefghijklmnopqrstuvwxyz_"
)

// Symbol tells whether a text is a symbol.
func Symbol(s string) bool {
	switch s {
	case "(", ")", "[", "]", ",", ".", ";", "&", "|", ":", "=", "!=", "<", "<=", ">", ">=":
		return true
	}
	return false
}

// Blank is the place behind the blanks that stand at a place of a text.
func Blank(text string, at int) int {
	for at >= 0 && at < len(text) {
		switch text[at] {
		case ' ', '\t', '\n', '\r':
			at++
		case '#':
			at += comment(text[at:])
		default:
			return at
		}
	}
	return at
}

// comment is how many bytes the comment has that s begins with.
func comment(s string) int {
	if n := strings.IndexByte(s, '\n'); n >= 0 {
		return n + 1
	}
	return len(s)
}

// word is the word that stands at a place where a text has a byte, and whether one does.
func word(text string, at int) (api.Token, bool) {
	kind, n := outline(text[at:])
	t := api.Token{Kind: kind, Text: text[at : at+n], At: at}
	ok := false
	switch kind {
	case api.TkName:
		ok = value.Name(t.Text)
	case api.TkSym:
		ok = Symbol(t.Text)
	default:
		t.Value, ok = value.Parse(t.Text)
	}
	return t, ok
}

// outline is the only kind of word that may stand where s begins, which is not empty, and how many bytes it takes: no fewer would do, even if these are no word.
func outline(s string) (int, int) {
	switch c := s[0]; {
	case strings.IndexByte(letters, c) >= 0:
		return api.TkName, run(s, letters+digits)
	case c == '-' || strings.IndexByte(digits, c) >= 0:
		return api.TkInt, 1 + run(s[1:], digits)
	case c == '"':
		return api.TkStr, quoted(s)
	}
	return api.TkSym, symbol(s)
}

// run is how many bytes s begins with that are all in set.
func run(s, set string) int { return len(s) - len(strings.TrimLeft(s, set)) }

// quoted is how many bytes the string has that s begins with. One that is not closed has all of them: value.Parse takes none such.
func quoted(s string) int {
	for i := 1; i < len(s); i++ {
		switch s[i] {
		case '\\':
			i++
		case '"':
			return i + 1
		}
	}
	return len(s)
}

// symbol is how many bytes the symbol has that s begins with.
func symbol(s string) int {
	if len(s) >= 2 && Symbol(s[:2]) {
		return 2
	}
	return 1
}
