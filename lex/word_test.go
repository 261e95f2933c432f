package lex_test

import (
	"math"
	"slices"
	"strings"
	"testing"

	"eyrie/api"
	"eyrie/lex"
)

// P5.1

func wantBlank(t *testing.T, text string, at, want int) {
	t.Helper()
	if n := lex.Blank(text, at); n != want {
		t.Errorf("Blank(%.100q, %d): %d, not %d", text, at, n, want)
	}
}

func TestBlank(t *testing.T) {
	for _, c := range []struct {
		text     string
		at, want int
	}{
		{"", 0, 0},
		{"a b", 0, 0}, {"a b", 1, 2}, {"a b", 2, 2}, {"a b", 3, 3},
		{" \t\n\ra", 0, 4}, {" \t\n\ra", 1, 4}, {" \t\n\ra", 2, 4}, {" \t\n\ra", 3, 4}, {" \t\n\ra", 4, 4},
		{"   ", 0, 3}, {"   ", 1, 3}, {"   ", 3, 3},
		// a comment that ends with a 10, and one that ends with the text
		{"a#b\nc", 1, 4}, {"a # b \n c", 1, 8}, {"#\na", 0, 2}, {"#\n", 0, 2},
		{"a#b", 1, 3}, {"a # b", 1, 5}, {"#", 0, 1}, {"a#", 1, 2},
		// a 13 does not end a comment; a # in a comment is nothing by itself
		{"# a\rb\nc", 0, 6}, {"#\rb", 0, 3}, {"##\n#\na", 0, 5}, {"# # a", 0, 5}, {"#a\n#b\n#c\nd", 0, 9}, {"#a\n\n \n#b", 0, 8},
		// inside of a comment: what stands there counts, as elsewhere
		{"# a b\nc", 1, 2}, {"# a b\nc", 2, 2}, {"# a b\nc", 3, 4}, {"# a b\nc", 5, 6}, {"a#b#c\nd", 2, 2}, {"a#b#c\nd", 3, 6},
		// inside of a string, too
		{`"a b#c"`, 2, 3}, {`"a b#c"`, 4, 7},
	} {
		wantBlank(t, c.text, c.at, c.want)
	}
}

// Of a place below 0 or above the text's length it is this place.
func TestBlankOutside(t *testing.T) {
	for _, text := range []string{"", " ", "  a  ", "#", "# a", "#\n", "   \n\n\n", "a", strings.Repeat(" ", 300)} {
		for _, at := range []int{-1, -2, -len(text), -len(text) - 1, math.MinInt32, math.MinInt, math.MinInt + 1} {
			if at < 0 {
				wantBlank(t, text, at, at)
			}
		}
		for _, at := range []int{len(text), len(text) + 1, len(text) + 2, 256 + len(text), math.MaxInt32, 1 << 32, math.MaxInt} {
			wantBlank(t, text, at, at)
		}
	}
}

func TestBlankBytes(t *testing.T) {
	for c := range 256 {
		s := string([]byte{byte(c)})
		want := 0
		switch c {
		case 32, 9, 10, 13:
			want = 1
		case 35:
			want = 3
		}
		wantBlank(t, s+"a\nb", 0, want)
		wantBlank(t, "ab"+s+"a\nb", 2, 2+want)
		// whatever byte a comment has: it ends with a 10 alone
		want = 4
		if c == 10 {
			want = 2
		}
		wantBlank(t, "#"+s+"c\nd", 0, want)
	}
}

func TestBlankShortTexts(t *testing.T) {
	texts(5, []string{" ", "\t", "\n", "\r", "#", "a", "\""}, func(s string) {
		for at := -2; at <= len(s)+2; at++ {
			if n := lex.Blank(s, at); n != modelBlank(s, at) {
				t.Fatalf("Blank(%q, %d): %d, not %d", s, at, n, modelBlank(s, at))
			}
		}
	})
}

// A text may be of any length here; each byte is looked at once.
func TestBlankLong(t *testing.T) {
	const n = 1 << 21
	for _, s := range []string{" ", "#\n", "\n#", "# \r#\"\n", " # a\n\t"} {
		text := strings.Repeat(s, n/len(s))
		wantBlank(t, text, 0, len(text))
		wantBlank(t, text+"#", 0, len(text)+1)
		wantBlank(t, "a"+text+"# \nb", 1, len(text)+4)
	}
	wantBlank(t, strings.Repeat("#", n), 0, n)
	wantBlank(t, strings.Repeat("#", n)+"\na", n/2, n+1)
}

func TestSymbol(t *testing.T) {
	all := symbols()
	if len(all) != 16 {
		t.Fatalf("%d symbols", len(all))
	}
	for _, s := range all {
		if !lex.Symbol(s) {
			t.Errorf("%s is none", s)
		}
	}
	for a := range 256 {
		one := string([]byte{byte(a)})
		if lex.Symbol(one) != slices.Contains(all, one) {
			t.Errorf("%q: %v", one, lex.Symbol(one))
		}
		for b := range 256 {
			two := one + string([]byte{byte(b)})
			if lex.Symbol(two) != slices.Contains(all, two) {
				t.Errorf("%q: %v", two, lex.Symbol(two))
			}
		}
		for _, s := range []string{"!", "<", "=", ">", "!=", "<=", ">=", "(", ".."} {
			if three := s + one + "="; lex.Symbol(three) || lex.Symbol(one+s+" ") {
				t.Errorf("%q or %q is one", three, one+s+" ")
			}
		}
	}
	for _, s := range []string{"", " ", "!", "==", "=<", "=>", "=!", "<>", "<<", "&&", "||", "()", "[]", "::", "::=", "!==", "<==", " =", "= ", "<\n=",
		"a", "as", "1", `"="`, "\uff1d", "\u2264", "\u2260", "\x00", strings.Repeat("=", 5000)} {
		if lex.Symbol(s) {
			t.Errorf("%.20q is one", s)
		}
	}
}

func TestSymbolWords(t *testing.T) {
	for _, s := range symbols() {
		wantWords(t, s, sym(s, 0))
		wantWords(t, " "+s+" ", sym(s, 1))
		wantWords(t, "a"+s+"b", name("a", 0), sym(s, 1), name("b", 1+len(s)))
		wantWords(t, s+"\n"+s, sym(s, 0), sym(s, 1+len(s)))
	}
	wantWords(t, "()[],.;&|:", sym("(", 0), sym(")", 1), sym("[", 2), sym("]", 3), sym(",", 4), sym(".", 5), sym(";", 6), sym("&", 7), sym("|", 8), sym(":", 9))
	// a ! alone is none
	wantStop(t, "!", 0)
	wantStop(t, "a!", 1, name("a", 0))
	wantStop(t, "! =", 0)
	wantStop(t, "!a", 0)
	wantStop(t, "!!=", 0)
	wantStop(t, "!=!", 2, sym("!=", 0))
	wantStop(t, "!#=\n=", 0)
}

// The longest one: < ahead of = is one word, = ahead of < is not.
func TestLongestSymbol(t *testing.T) {
	wantWords(t, "<=", sym("<=", 0))
	wantWords(t, "< =", sym("<", 0), sym("=", 2))
	wantWords(t, "<#\n=", sym("<", 0), sym("=", 3))
	wantWords(t, "=<", sym("=", 0), sym("<", 1))
	wantWords(t, "=>", sym("=", 0), sym(">", 1))
	wantWords(t, "=<=", sym("=", 0), sym("<=", 1))
	wantWords(t, "<==", sym("<=", 0), sym("=", 2))
	wantWords(t, "==", sym("=", 0), sym("=", 1))
	wantWords(t, "=!=", sym("=", 0), sym("!=", 1))
	wantWords(t, "!==", sym("!=", 0), sym("=", 2))
	wantWords(t, "<<=>=>", sym("<", 0), sym("<=", 1), sym(">=", 3), sym(">", 5))
	wantWords(t, "<>", sym("<", 0), sym(">", 1))
	wantWords(t, "&&||", sym("&", 0), sym("&", 1), sym("|", 2), sym("|", 3))
	wantWords(t, "=-1", sym("=", 0), num("-1", -1, 1))
	wantWords(t, `<="="`, sym("<=", 0), str(`"="`, "=", 2))
}

// Each byte that no word begins with.
func TestNoWord(t *testing.T) {
	for c := range 256 {
		s := string([]byte{byte(c)})
		if strings.Contains(" \t\n\r#", s) || modelWord(s, 0).Kind != 0 {
			continue
		}
		wantStop(t, s, 0)
		if s == "!" { // not behind it, too: != is one
			continue
		}
		wantStop(t, s+"=", 0)
		if s != "\"" {
			wantStop(t, "a "+s+"b", 2, name("a", 0))
			wantStop(t, "a"+s+"\"", 1, name("a", 0))
		}
	}
	for _, s := range []string{"*", "/", "+", "'", "`", "{", "}", "@", "$", "%", "^", "~", "?", "\\", "\v", "\f", "\x00", "\x7f", "\x80", "\xff", "\u00e9", "\u00a0", "\ufeff"} {
		wantStop(t, "a;"+s, 2, name("a", 0), sym(";", 1))
	}
}

func TestNames(t *testing.T) {
	most := strings.Repeat("a", api.MaxName)
	for _, s := range []string{"a", "z", "A", "Z", "_", "__", "_1", "a1", "a_b", "Az09_", "a00", "x9y", "pattern", "within", "as", "where", "azAZ_",
		"abcdefghijklmnopqrstuvwxyz_", "ABCDEFGHIJKLMNOPQRSTUVWXYZ", "a0123456789", most, most[1:] + "_", most[1:] + "0", "_" + most[1:],
		strings.Repeat("_", api.MaxName), "Z" + strings.Repeat("9", api.MaxName-1)} {
		wantWords(t, s, name(s, 0))
		wantWords(t, " "+s+";", name(s, 1), sym(";", 1+len(s)))
		wantWords(t, s+"#"+s, name(s, 0))
		wantWords(t, s+"."+s, name(s, 0), sym(".", len(s)), name(s, 1+len(s)))
		wantWords(t, s+"-1", name(s, 0), num("-1", -1, len(s)))
		wantWords(t, s+`""`, name(s, 0), str(`""`, "", len(s)))
		wantStop(t, s+"\u00e9", len(s), name(s, 0))
	}
	// one that is too long may not be, and no part of it is a word
	for _, s := range []string{most + "a", most + "0", most + "_", strings.Repeat("_", api.MaxName+1), most + most, strings.Repeat("b", api.MaxPattern)} {
		wantStop(t, s, 0)
	}
	for _, s := range []string{most + "a", most + "_", most + most} {
		wantStop(t, s+" b", 0)
		wantStop(t, "b "+s, 2, name("b", 0))
		wantStop(t, "b;#c\n"+s+";d", 5, name("b", 0), sym(";", 1))
	}
	wantWords(t, most+" "+most, name(most, 0), name(most, 1+len(most)))
}

func TestInts(t *testing.T) {
	for _, n := range []int64{0, 1, -1, 9, 10, -10, 42, 100, 1000000, math.MaxInt32, math.MinInt32, math.MaxInt64 - 1, math.MaxInt64, math.MinInt64 + 1, math.MinInt64} {
		s := big(n)
		wantWords(t, s, num(s, n, 0))
		wantWords(t, "\t"+s+")", num(s, n, 1), sym(")", 1+len(s)))
		wantWords(t, s+"#"+s, num(s, n, 0))
		// with a name right behind it
		wantWords(t, s+"a", num(s, n, 0), name("a", len(s)))
		wantWords(t, s+"_1", num(s, n, 0), name("_1", len(s)))
		wantWords(t, s+"e3", num(s, n, 0), name("e3", len(s)))
		wantWords(t, s+".5", num(s, n, 0), sym(".", len(s)), num("5", 5, 1+len(s)))
		wantWords(t, s+"-7", num(s, n, 0), num("-7", -7, len(s)))
		wantWords(t, s+`"a"`, num(s, n, 0), str(`"a"`, "a", len(s)))
		wantWords(t, "<="+s, sym("<=", 0), num(s, n, 2))
	}
	wantWords(t, "1a", num("1", 1, 0), name("a", 1))
	wantWords(t, "0x1", num("0", 0, 0), name("x1", 1))
	wantWords(t, "0 1", num("0", 0, 0), num("1", 1, 2))
}

func TestIntsThatMayNotBe(t *testing.T) {
	for _, s := range []string{"01", "00", "007", "-0", "-00", "-01", "-007", "0123456789", "-", "--", "--1", "---1", "- 1", "-a", "-_", "-(", "-\"1\"", "-#\n1", "-=",
		"9223372036854775808", "-9223372036854775809", "9223372036854775810", "10000000000000000000", "18446744073709551615", "18446744073709551616",
		"-18446744073709551616", "99999999999999999999999", "-99999999999999999999999", "00000000000000000000001",
		"1" + strings.Repeat("0", 4000), "-" + strings.Repeat("9", 4000), strings.Repeat("0", 4000), "+1"} {
		wantStop(t, s, 0)
		wantStop(t, s+" a", 0)
		wantStop(t, " "+s+"a", 1)
		wantStop(t, "a<"+s, 2, name("a", 0), sym("<", 1))
	}
	wantStop(t, "1-", 1, num("1", 1, 0))
	wantStop(t, "1--1", 1, num("1", 1, 0))
	wantStop(t, "1-01", 1, num("1", 1, 0))
	wantStop(t, "a-", 1, name("a", 0))
	wantStop(t, "1 01", 2, num("1", 1, 0))
}

func TestStrings(t *testing.T) {
	full := strings.Repeat("\xff", api.MaxString)
	for _, v := range []string{"", "a", "a b", " ", "a\"b", "\"", "\"\"", "\\", "\\\\", "\\\"", "\"\\", "a\\", "\\n", "\\x41", "x41", "\x00", "\n", "\r\t", "\x1f\x7f\x80\xff", "\u00e9",
		"# no comment", "#", "a#b", "1", "-5", "a ; b", "'", strings.Repeat("a", api.MaxString), strings.Repeat("\"", api.MaxString), strings.Repeat("\\", api.MaxString), full} {
		s := quote(v)
		wantWords(t, s, str(s, v, 0))
		wantWords(t, "#\n"+s+"#\"", str(s, v, 2))
		wantWords(t, s+s, str(s, v, 0), str(s, v, len(s)))
		wantWords(t, s+"a", str(s, v, 0), name("a", len(s)))
		wantWords(t, "a"+s, name("a", 0), str(s, v, 1))
		wantWords(t, "1"+s+"1", num("1", 1, 0), str(s, v, 1), num("1", 1, 1+len(s)))
		wantStop(t, s+`"`, len(s), str(s, v, 0))
		wantStop(t, s+`\`, len(s), str(s, v, 0))
	}
	// a 92 takes the byte behind it with it
	wantWords(t, `"\\"`, str(`"\\"`, `\`, 0))
	wantWords(t, `"\\" "a"`, str(`"\\"`, `\`, 0), str(`"a"`, "a", 5))
	wantWords(t, `"a\\"b`, str(`"a\\"`, `a\`, 0), name("b", 5))
	wantWords(t, `"\"b"`, str(`"\"b"`, `"b`, 0))
	wantWords(t, `"\\\""`, str(`"\\\""`, `\"`, 0))
	wantWords(t, `"\\\\"a"\""`, str(`"\\\\"`, `\\`, 0), name("a", 6), str(`"\""`, `"`, 7))
	wantStop(t, `"\\"b"`, 5, str(`"\\"`, `\`, 0), name("b", 4))
	wantStop(t, `"a\""b"`, 6, str(`"a\""`, `a"`, 0), name("b", 5))
	// a " in a comment, a # in a string
	wantWords(t, "a # \" b\nc", name("a", 0), name("c", 8))
	wantWords(t, "a # \"", name("a", 0))
	wantWords(t, `a "# b" c`, name("a", 0), str(`"# b"`, "# b", 2), name("c", 8))
	wantWords(t, `"#" a # "#`, str(`"#"`, "#", 0), name("a", 4))
}

func TestStringsThatMayNotBe(t *testing.T) {
	long := strings.Repeat("a", api.MaxString+1)
	for _, s := range []string{
		// not closed
		`"`, `"a`, `"a b`, `"\"`, `"a\"`, `"\\\"`, `"\`, `"a\`, `"\\`, `"\x00`, `"a\" b c`, `"a # `, "\"a\n", "\"" + strings.Repeat("a", 4000), `"` + strings.Repeat(`\"`, 2000),
		// closed, but no value.Text writes them
		`"\n"`, `"\x41"`, `"\x0A"`, `"\x0"`, `"\xg0"`, `"\ "`, `"\'"`, `"a\b"`, "\"\n\"", "\"a\tb\"", "\"\x00\"", "\"\x7f\"", "\"\x80\"", "\"\u00e9\"", "\"\\\n\"",
		quote(long), quote(long + long), quote(strings.Repeat("\xff", api.MaxString+1)), quote(strings.Repeat("\"", api.MaxString+1)),
	} {
		wantStop(t, s, 0)
		wantStop(t, "\n"+s, 1)
		wantStop(t, "a="+s, 2, name("a", 0), sym("=", 1))
	}
	// the first byte, whatever stands further behind
	wantStop(t, `"\n" a`, 0)
	wantStop(t, `"\n" "a"`, 0)
	wantStop(t, `a "\x41" b`, 2, name("a", 0))
	wantStop(t, `"a" "b`, 4, str(`"a"`, "a", 0))
	wantStop(t, "\"a\n\" \"b\"", 0)
}

// Each byte behind a 92 in a string.
func TestBytesBehind92(t *testing.T) {
	for c := range 256 {
		s := "\"\\" + string([]byte{byte(c)}) + "\""
		switch c {
		case '"':
			wantWords(t, s, str(s, "\"", 0))
		case '\\':
			wantWords(t, s, str(s, "\\", 0))
		default:
			wantStop(t, s, 0)
		}
	}
}
