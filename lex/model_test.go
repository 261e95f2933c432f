package lex_test

import (
	"fmt"
	"regexp"
	"strconv"

	"eyrie/api"
	"eyrie/value"
)

// The chapter's words and blanks, as regular expressions.
var (
	blankForm = regexp.MustCompile(`\A(?:[ \t\n\r]|#[^\n]*(?:\n|\z))*`)
	wordForms = [...]*regexp.Regexp{
		api.TkName: regexp.MustCompile(`\A[a-zA-Z_][a-zA-Z_0-9]*`),
		api.TkInt:  regexp.MustCompile(`\A-?[0-9]+`),
		api.TkStr:  regexp.MustCompile(`(?s)\A"(?:[^"\\]|\\.)*"`),
		api.TkSym:  regexp.MustCompile(`\A(?:!=|<=|>=|[()\[\],.;&|:=<>])`),
	}
)

// modelBlank is what Blank should answer.
func modelBlank(text string, at int) int {
	if at < 0 || at > len(text) {
		return at
	}
	return at + len(blankForm.FindString(text[at:]))
}

// modelWord is the word that should stand at a place of a text; with no Kind, if none should.
func modelWord(text string, at int) api.Token {
	for kind := api.TkName; kind <= api.TkSym; kind++ {
		s := wordForms[kind].FindString(text[at:])
		if s == "" {
			continue
		}
		v, ok := value.Parse(s)
		switch kind {
		case api.TkName:
			ok = value.Name(s)
		case api.TkSym:
			ok = true
		}
		if ok {
			return api.Token{Kind: kind, Text: s, Value: v, At: at}
		}
	}
	return api.Token{}
}

// model is what Scan should answer, but for the words ahead of the place at which none stands: these are answered, too, as Walk tells them.
func model(text string) ([]api.Token, int, api.Errno) {
	if len(text) > api.MaxPattern {
		return nil, 0, api.ErrLong
	}
	var l []api.Token
	for at := modelBlank(text, 0); at < len(text); {
		t := modelWord(text, at)
		if t.Kind == 0 {
			return l, at, api.ErrSyntax
		}
		l = append(l, t)
		at = modelBlank(text, at+len(t.Text))
	}
	return l, 0, api.OK
}

func big(n int64) string { return strconv.FormatInt(n, 10) }

// quote is a string as a word.
func quote(s string) string {
	t := ""
	for i := range len(s) {
		switch c := s[i]; {
		case c == '"' || c == '\\':
			t += "\\" + string([]byte{c})
		case c < 32 || c > 126:
			t += fmt.Sprintf("\\x%02x", c)
		default:
			t += string([]byte{c})
		}
	}
	return "\"" + t + "\""
}
