package lex_test

import (
	"math"
	"slices"
	"strings"
	"testing"

	"eyrie/api"
	"eyrie/lex"
)

// P5.3

// words are words that may be, of each kind.
func words() []api.Token {
	l := []api.Token{name("a", 0), name("_", 0), name("pattern", 0), name(strings.Repeat("Z", api.MaxName), 0),
		num("0", 0, 0), num("-5", -5, 0), num(big(math.MinInt64), math.MinInt64, 0), num(big(math.MaxInt64), math.MaxInt64, 0),
		str(`""`, "", 0), str(`"a b"`, "a b", 0), str(`"#"`, "#", 0), str(`"a\"b"`, "a\"b", 0), str(`"\\"`, "\\", 0), str(`"\x00"`, "\x00", 0)}
	full := strings.Repeat("\xff", api.MaxString)
	l = append(l, str(quote(full), full, 0))
	for _, s := range symbols() {
		l = append(l, sym(s, 0))
	}
	return l
}

func wantCheck(t *testing.T, w api.Token, want api.Errno) {
	t.Helper()
	if err := lex.Check(w); err != want {
		t.Errorf("kind %d, %.100q, value %v, place %d: error %d, not %d", w.Kind, w.Text, w.Value, w.At, err, want)
	}
}

func TestCheckTakes(t *testing.T) {
	for _, w := range words() {
		// At may be any
		for _, at := range []int{0, 1, -1, 7, len(w.Text), api.MaxPattern, math.MaxInt, math.MinInt} {
			w.At = at
			wantCheck(t, w, api.OK)
		}
	}
}

// broken are tokens that Scan does not answer.
func broken() []api.Token {
	l := []api.Token{{}, name("", 0), sym("", 0), num("", 0, 0), str("", "", 0), name("", 5), {Text: "a"}, {Kind: api.TkName}, {At: 3}}
	for _, s := range []string{"1", "01", "-", "!", "a!", "!a", "a b", "a.x", "1a", "a1 ", " a1", "\u00e9", "\x00", "*", strings.Repeat("a", api.MaxName+1),
		strings.Repeat("a", api.MaxPattern), strings.Repeat("a", api.MaxPattern+1), strings.Repeat("a ", api.MaxPattern), " ", "#", "#a", "\n", `"a`} {
		l = append(l, name(s, 0))
	}
	for _, s := range []string{"!", "==", "=<", "=!", "()", "&&", "a", "1", "< =", " =", "= ", "=#", "#\n=", "?"} {
		l = append(l, sym(s, 0))
	}
	for _, s := range []string{"05", "-0", "+5", "5 ", " 5", "5#", "5a", "5 5", "55", "a", "=", "--5", `"5"`} {
		l = append(l, num(s, 5, 0))
	}
	l = append(l, num("-0", 0, 0), num("00", 0, 0), num("9223372036854775808", math.MinInt64, 0), num("9223372036854775807 ", math.MaxInt64, 0))
	for _, s := range []string{`"a`, `a"`, `a`, `"a" `, ` "a"`, `"a"#`, `"a""a"`, `"a" "a"`, `"\x61"`, `"a"b`, `"a"=`, `"\a"`, `""`} {
		l = append(l, str(s, "a", 0))
	}
	long := strings.Repeat("a", api.MaxString+1)
	return append(l, str(quote(long), long, 0), str("\"\n\"", "\n", 0))
}

// changed are tokens that differ from a word in one of Text, Kind and Value.
func changed(w api.Token) []api.Token {
	var l []api.Token
	add := func(change func(w *api.Token)) {
		o := w
		change(&o)
		l = append(l, o)
	}
	for _, s := range []string{" ", "\t", "\n", "\r", "#", "# a", "#\n", "!", " a", ";", "\xff"} {
		add(func(w *api.Token) { w.Text += s })
	}
	for _, s := range []string{" ", "\t", "\n", "\r", "#\n", "# ", "! ", "a ", ";", "\xff"} {
		add(func(w *api.Token) { w.Text = s + w.Text })
	}
	add(func(w *api.Token) { w.Text = "" })
	add(func(w *api.Token) { w.Text = w.Text + " " + w.Text })
	for kind := -1; kind < 6; kind++ {
		if kind != w.Kind {
			add(func(w *api.Token) { w.Kind = kind })
		}
	}
	add(func(w *api.Token) { w.Kind += 256 })
	add(func(w *api.Token) { w.Kind += 1 << 32 })
	for _, n := range []int{1, -1, 256} {
		add(func(w *api.Token) { w.Value.Kind += n })
	}
	for _, n := range []int64{1, -1, 1 << 32, math.MinInt64} {
		add(func(w *api.Token) { w.Value.N += n })
	}
	add(func(w *api.Token) { w.Value.S += "a" })
	add(func(w *api.Token) { w.Value.S += "\x00" })
	if w.Value != (api.Value{}) {
		add(func(w *api.Token) { w.Value = api.Value{} })
	}
	return l
}

func TestCheckRefuses(t *testing.T) {
	for _, w := range broken() {
		wantCheck(t, w, api.ErrSyntax)
	}
	for _, w := range words() {
		for _, o := range changed(w) {
			wantCheck(t, o, api.ErrSyntax)
			o.At = 12
			wantCheck(t, o, api.ErrSyntax)
		}
	}
	wantCheck(t, name(strings.Repeat("a", 1<<22), 0), api.ErrSyntax)
	wantCheck(t, str("\""+strings.Repeat("a", 1<<22)+"\"", "a", 0), api.ErrSyntax)
}

func wantJoin(t *testing.T, want string, l ...api.Token) {
	t.Helper()
	stood := slices.Clone(l)
	if s, err := lex.Join(l...); s != want || err != api.OK {
		t.Errorf("%v: %q, error %d, not %q", l, s, err, want)
	}
	if !slices.Equal(l, stood) {
		t.Errorf("what was handed in was written to: %v", l)
	}
}

func wantNoJoin(t *testing.T, want api.Errno, l ...api.Token) {
	t.Helper()
	if s, err := lex.Join(l...); s != "" || err != want {
		t.Errorf("%d words: %.100q, error %d, not %d", len(l), s, err, want)
	}
}

func TestJoin(t *testing.T) {
	wantJoin(t, "")
	wantJoin(t, "", []api.Token{}...)
	for _, w := range words() {
		wantJoin(t, w.Text, w)
		wantJoin(t, w.Text+" "+w.Text, w, w)
		wantJoin(t, "a "+w.Text+" ; "+w.Text, name("a", 0), w, sym(";", 0), w)
	}
	wantJoin(t, "a . x <= -5", name("a", 0), sym(".", 1), name("x", 2), sym("<=", 3), num("-5", -5, 5))
	// places are of no matter
	wantJoin(t, `a "b" < =`, name("a", 9), str(`"b"`, "b", -4), sym("<", math.MaxInt), sym("=", math.MinInt))
}

func TestJoinRefuses(t *testing.T) {
	for _, w := range broken() {
		wantNoJoin(t, api.ErrSyntax, w)
		wantNoJoin(t, api.ErrSyntax, name("a", 0), w)
		wantNoJoin(t, api.ErrSyntax, w, name("a", 0))
		wantNoJoin(t, api.ErrSyntax, name("a", 0), sym(".", 0), w, w, name("a", 0))
	}
}

// row is words that make a text of n bytes.
func row(n int) []api.Token {
	var l []api.Token
	for ; n > 2; n -= 2 {
		l = append(l, sym(".", n))
	}
	return append(l, name("ab"[:n], 0))
}

func TestJoinLength(t *testing.T) {
	for _, n := range []int{1, 2, 3, 4, 100, api.MaxPattern - 1, api.MaxPattern} {
		s, err := lex.Join(row(n)...)
		if err != api.OK || len(s) != n {
			t.Errorf("of %d bytes: %d bytes, error %d", n, len(s), err)
		}
	}
	for _, n := range []int{api.MaxPattern + 1, api.MaxPattern + 2, 2 * api.MaxPattern, 1 << 18} {
		wantNoJoin(t, api.ErrLong, row(n)...)
		// the error of a word comes first, wherever it stands
		for _, w := range []api.Token{{}, name("a b", 0), sym("!", 0), name(strings.Repeat("a", 2*api.MaxPattern), 0)} {
			wantNoJoin(t, api.ErrSyntax, append(row(n), w)...)
			wantNoJoin(t, api.ErrSyntax, append([]api.Token{w}, row(n)...)...)
			l := row(n)
			l[len(l)/2] = w
			wantNoJoin(t, api.ErrSyntax, l...)
		}
	}
	// few words that are long
	full := strings.Repeat("\xff", api.MaxString)
	w := str(quote(full), full, 0) // with a blank behind it 259 bytes
	l := slices.Repeat([]api.Token{w}, 15)
	wantJoin(t, strings.Repeat(w.Text+" ", 15)+strings.Join(slices.Repeat([]string{";"}, 106), " "), append(l, slices.Repeat([]api.Token{sym(";", 0)}, 106)...)...)
	wantNoJoin(t, api.ErrLong, append(l, slices.Repeat([]api.Token{sym(";", 0)}, 107)...)...)
	wantNoJoin(t, api.ErrLong, append(l, w)...)
}
