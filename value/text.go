package value

import (
	"strconv"
	"strings"

	"eyrie/api"
)

// Text is a value as a pattern's text has it.
func Text(v api.Value) string {
	switch v.Kind {
	case api.VInt:
		return strconv.FormatInt(v.N, 10)
	case api.VStr:
		return quote(v.S)
	}
	return "?"
}

// Parse is the value that Text writes so.
func Parse(s string) (api.Value, bool) {
	v, ok := read(s)
	// read takes more than Text writes: a text that Text would not write says nothing
	if !ok || Check(v) != api.OK || Text(v) != s {
		return api.Value{}, false
	}
	return v, true
}

// quote is a string's bytes between quotes, those written otherwise that could be mistaken or not be seen.
func quote(s string) string {
	const digits = "0123456789abcdef"
	b := []byte{'"'}
	for i := range len(s) {
		c := s[i]
		switch {
		case c == '"' || c == '\\':
			b = append(b, '\\', c)
		case c < ' ' || c > '~':
			b = append(b, '\\', 'x', digits[c>>4], digits[c&15])
		default:
			b = append(b, c)
		}
	}
	return string(append(b, '"'))
}

// read is the value that a text says in Text's way, or in one that is near to it.
func read(s string) (api.Value, bool) {
	if strings.HasPrefix(s, `"`) {
		t, ok := unquote(s)
		return api.Value{Kind: api.VStr, S: t}, ok
	}
	n, err := strconv.ParseInt(s, 10, 64)
	return api.Value{Kind: api.VInt, N: n}, err == nil
}

// unquote is the string whose bytes stand between the quote that s begins with and one at its end.
func unquote(s string) (string, bool) {
	rest, ok := strings.CutSuffix(s[1:], `"`)
	if !ok {
		return "", false
	}
	var b []byte
	for rest != "" {
		c, n := first(rest)
		if n == 0 {
			return "", false
		}
		b = append(b, c)
		rest = rest[n:]
	}
	return string(b), true
}

// first is the byte that is written first in s, which is not empty, and how many bytes of s write it: 0 of them, if none is written.
func first(s string) (byte, int) {
	switch {
	case s[0] != '\\':
		return s[0], 1
	case len(s) >= 2 && s[1] != 'x':
		return s[1], 2
	case len(s) >= 4:
		if u, err := strconv.ParseUint(s[2:4], 16, 8); err == nil {
			return byte(u), 4
		}
	}
	return 0, 0
}
