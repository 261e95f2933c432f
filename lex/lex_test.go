package lex_test

import (
	"slices"
	"strings"
	"testing"

	"eyrie/api"
	"eyrie/lex"
)

// P5.2

func TestExamples(t *testing.T) {
	wantWords(t, "a.x<=-5 # c", name("a", 0), sym(".", 1), name("x", 2), sym("<=", 3), num("-5", -5, 5))
	wantWords(t, "1a", num("1", 1, 0), name("a", 1))
	wantStop(t, "01", 0)
	wantStop(t, "a!", 1, name("a", 0))
}

func TestPattern(t *testing.T) {
	wantWords(t, "pattern p within 10 : # one\n\tA as a [ x > 3, y!=\"me\" ];(B as b|C as c)\r\nwhere a.x = b.x",
		name("pattern", 0), name("p", 8), name("within", 10), num("10", 10, 17), sym(":", 20),
		name("A", 29), name("as", 31), name("a", 34), sym("[", 36), name("x", 38), sym(">", 40), num("3", 3, 42), sym(",", 43),
		name("y", 45), sym("!=", 46), str(`"me"`, "me", 48), sym("]", 53), sym(";", 54), sym("(", 55),
		name("B", 56), name("as", 58), name("b", 61), sym("|", 62), name("C", 63), name("as", 65), name("c", 68), sym(")", 69),
		name("where", 72), name("a", 78), sym(".", 79), name("x", 80), sym("=", 82), name("b", 84), sym(".", 85), name("x", 86))
	wantWords(t, "a&b", name("a", 0), sym("&", 1), name("b", 2))
	wantWords(t, "a<b<=c>d>=e=f!=-1", name("a", 0), sym("<", 1), name("b", 2), sym("<=", 3), name("c", 5), sym(">", 6), name("d", 7),
		sym(">=", 8), name("e", 10), sym("=", 11), name("f", 12), sym("!=", 13), num("-1", -1, 15))
}

func TestNoWords(t *testing.T) {
	for _, s := range []string{"", " ", "\t", "\n", "\r", " \t\n\r \n", "#", "# a", "#\n", "# a\n", " # a \" ! \xff\n\t# b", "##", "#\n#\n#",
		strings.Repeat(" ", api.MaxPattern), "#" + strings.Repeat("a", api.MaxPattern-1), strings.Repeat("#\n", api.MaxPattern/2)} {
		wantWords(t, s)
	}
}

func TestTextsLength(t *testing.T) {
	for _, s := range []string{"a ", "-1; ", `""`, "a #\n", `"b"."b" `} {
		text := strings.Repeat(s, api.MaxPattern/len(s))
		want, _, err := model(text)
		if err != api.OK || len(text) != api.MaxPattern {
			t.Fatalf("%d bytes, error %d", len(text), err)
		}
		wantWords(t, text, want...)
		wantLong(t, text+" ")
		wantLong(t, text+text)
	}
	var dots []api.Token
	for i := range api.MaxPattern {
		dots = append(dots, sym(".", i))
	}
	text := strings.Repeat(".", api.MaxPattern)
	wantWords(t, text, dots...)
	wantWords(t, text[1:], dots[:len(dots)-1]...)
	for _, s := range []string{".", " ", "#", "!", "\n"} {
		wantLong(t, text+s)
		wantLong(t, s+text)
	}
	// too long, whatever stands in it
	wantLong(t, "!"+text)
	wantLong(t, strings.Repeat("!", api.MaxPattern+1))
	wantLong(t, strings.Repeat(" ", api.MaxPattern+1))
	wantLong(t, strings.Repeat("\x00", 1<<22))
}

// The first place at which no word stands, wherever it is.
func TestPlaceOfError(t *testing.T) {
	for _, n := range []int{0, 1, 2, 3, 7, 100, api.MaxPattern / 2, api.MaxPattern - 2, api.MaxPattern - 1} {
		var ahead []api.Token
		for i := range n {
			ahead = append(ahead, sym(";", i))
		}
		text := strings.Repeat(";", n) + "!" + strings.Repeat("!", api.MaxPattern)
		wantStop(t, text[:n+1], n, ahead...)
		wantStop(t, text[:api.MaxPattern], n, ahead...)
		blanks := strings.Repeat(" ", n) + "01" + strings.Repeat(" ", api.MaxPattern)
		if n+2 <= api.MaxPattern {
			wantStop(t, blanks[:n+2], n)
			wantStop(t, blanks[:api.MaxPattern], n)
		}
	}
	wantStop(t, "!", 0)
	wantStop(t, "! a", 0)
	wantStop(t, "a ! b", 2, name("a", 0))
	wantStop(t, "a b !", 4, name("a", 0), name("b", 2))
	wantStop(t, "a # !\n !", 7, name("a", 0))
	wantStop(t, "a \"!\" !", 6, name("a", 0), str(`"!"`, "!", 2))
	wantStop(t, "! \"", 0)
	wantStop(t, "a 01 ! \"", 2, name("a", 0))
}

// Walk tells one word behind the other: its reader may stop at any.
func TestWalkStops(t *testing.T) {
	text := "a . x <= -5 ! b"
	l := []api.Token{name("a", 0), sym(".", 2), name("x", 4), sym("<=", 6), num("-5", -5, 9)}
	seq := lex.Walk(text)
	for n := 1; n <= len(l); n++ {
		var got []api.Token
		seq(func(w api.Token) bool {
			got = append(got, w)
			return len(got) < n
		})
		if !slices.Equal(got, l[:n]) {
			t.Errorf("stopped at %d: %v", n, got)
		}
	}
	if got := listed(seq); !slices.Equal(got, l) {
		t.Errorf("gone through again: %v", got)
	}
	// one walk within another
	many := 0
	for a := range seq {
		for b := range seq {
			if a == b {
				many++
			}
		}
	}
	if many != len(l) {
		t.Errorf("%d words, not %d", many, len(l))
	}
	lex.Walk("")(nil)
	lex.Walk(" # ")(nil)
	lex.Walk("!")(nil)
	lex.Walk(strings.Repeat("a ", api.MaxPattern))(nil)
}

// wantModel asks that a text has the words that it should; it tells whether it has words alone.
func wantModel(t *testing.T, text string) bool {
	t.Helper()
	want, place, err := model(text)
	l, at, is := lex.Scan(text)
	if is != err || at != place || err != api.OK && l != nil || err == api.OK && !slices.Equal(l, want) {
		t.Fatalf("%q: %v, place %d, error %d; not %v, %d, %d", text, l, at, is, want, place, err)
	}
	if l := listed(lex.Walk(text)); !slices.Equal(l, want) {
		t.Fatalf("Walk of %q: %v, not %v", text, l, want)
	}
	return err == api.OK
}

func TestShortTexts(t *testing.T) {
	n := 0
	texts(5, []string{"a", "_", "0", "1", "-", "\"", "\\", "#", "\n", " ", "=", "<", "!"}, func(s string) {
		if wantModel(t, s) {
			n++
		}
	})
	if n < 50000 {
		t.Errorf("only %d have words alone", n)
	}
}

// Texts of words, some of their bytes changed.
func TestChangedTexts(t *testing.T) {
	r, n := dice(), 0
	for range 20000 {
		text := ""
		for range r.IntN(12) {
			text += someWord(r).Text + someBlank(r, r.IntN(3) > 0)
		}
		b := []byte(text)
		for range r.IntN(3) {
			i := r.IntN(len(b) + 1)
			b = slices.Insert(b, i, "\"\\x0f-#A!= \n\xff"[r.IntN(13)])
			if r.IntN(2) == 0 {
				b = slices.Delete(b, i, min(i+1+r.IntN(3), len(b)))
			}
		}
		if wantModel(t, string(b)) {
			n++
		}
		wantModel(t, noise(r, r.IntN(12)))
		wantModel(t, text+noise(r, 2)+text)
	}
	if n < 5000 {
		t.Errorf("only %d have words alone", n)
	}
}

// R3: what is answered is nobody's else.
func TestScanMemory(t *testing.T) {
	text := "a . x <= -5"
	one, _, _ := lex.Scan(text)
	other, _, _ := lex.Scan(text)
	stood := slices.Clone(other)
	_ = append(one, name("behind", 0))
	for i := range one {
		one[i] = sym("?", 99)
	}
	if !slices.Equal(other, stood) {
		t.Errorf("shared: %v", other)
	}
	wantWords(t, text, stood...)
}
