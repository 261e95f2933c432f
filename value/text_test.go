package value_test

import (
	"fmt"
	"math/big"
	"regexp"
	"strings"
	"testing"

	"eyrie/api"
	"eyrie/value"
)

// P3.4

// written is how the chapter has a byte of a string.
func written(c byte) string {
	switch {
	case c == 34:
		return "\\\""
	case c == 92:
		return "\\\\"
	case c < 32 || c > 126:
		return fmt.Sprintf("\\x%02x", c)
	}
	return string([]byte{c})
}

// plain is how the chapter has a value.
func plain(v api.Value) string {
	switch v.Kind {
	case api.VInt:
		return big.NewInt(v.N).String()
	case api.VStr:
		t := "\""
		for i := range len(v.S) {
			t += written(v.S[i])
		}
		return t + "\""
	}
	return "?"
}

func wantText(t *testing.T, v api.Value, want string) {
	t.Helper()
	if s := value.Text(v); s != want {
		t.Errorf("%#v: %s, not %s", v, s, want)
	}
}

func TestTextExamples(t *testing.T) {
	wantText(t, num(0), "0")
	wantText(t, num(-5), "-5")
	wantText(t, num(1234567890), "1234567890")
	wantText(t, num(-1<<63), "-9223372036854775808")
	wantText(t, num(1<<63-1), "9223372036854775807")
	wantText(t, str(""), `""`)
	wantText(t, str("a\"b"), `"a\"b"`)
	wantText(t, str(`a\b`), `"a\\b"`)
	wantText(t, str("-5"), `"-5"`)
	wantText(t, str("\x00\t\n\x1f ~\x7f\x80\xff"), `"\x00\x09\x0a\x1f ~\x7f\x80\xff"`)
	wantText(t, str("\u00e9"), `"\xc3\xa9"`)
	wantText(t, api.Value{}, "?")
}

func TestTextOfEachByte(t *testing.T) {
	var all []byte
	for c := range 256 {
		all = append(all, byte(c))
		wantText(t, str(string([]byte{byte(c)})), "\""+written(byte(c))+"\"")
		wantText(t, str(string([]byte{'a', byte(c), 'b'})), "\"a"+written(byte(c))+"b\"")
	}
	wantText(t, str(string(all)), plain(str(string(all))))
}

func TestText(t *testing.T) {
	r := dice()
	l := append(values(), refused()...) // what Check refuses is written, too: by its Kind
	for range 3000 {
		l = append(l, some(r))
	}
	for _, v := range l {
		if len(v.S) < 1000 {
			wantText(t, v, plain(v))
		}
	}
	for _, k := range kinds() {
		wantText(t, api.Value{Kind: k, N: 5, S: "a"}, "?")
	}
	wantText(t, api.Value{Kind: api.VInt, N: 5, S: "a"}, "5")
	wantText(t, api.Value{Kind: api.VStr, N: 5, S: "a"}, `"a"`)
	long := strings.Repeat("a", 1<<20)
	if s := value.Text(str(long)); s != "\""+long+"\"" {
		t.Error("a long string")
	}
}

func wantParsed(t *testing.T, s string, want api.Value) {
	t.Helper()
	if v, ok := value.Parse(s); v != want || !ok {
		t.Errorf("%q: %#v %v", s, v, ok)
	}
}

func wantNothing(t *testing.T, s string) {
	t.Helper()
	if v, ok := value.Parse(s); v != (api.Value{}) || ok {
		t.Errorf("%.100q: %#v %v", s, v, ok)
	}
}

func TestParseExamples(t *testing.T) {
	wantParsed(t, "0", num(0))
	wantParsed(t, "-5", num(-5))
	wantParsed(t, "10", num(10))
	wantParsed(t, "-9223372036854775808", num(-1<<63))
	wantParsed(t, "9223372036854775807", num(1<<63-1))
	wantParsed(t, `""`, str(""))
	wantParsed(t, `"?"`, str("?"))
	wantParsed(t, `"a\"b"`, str("a\"b"))
	wantParsed(t, `"\\"`, str("\\"))
	wantParsed(t, `"\\\""`, str("\\\""))
	wantParsed(t, `"\\x41"`, str("\\x41"))
	wantParsed(t, `"x41"`, str("x41"))
	wantParsed(t, `"\x00\x0a\x7f\xff"`, str("\x00\n\x7f\xff"))
	for _, s := range []string{"a", "\"", "\\", "\x00", "\xff"} {
		v := str(strings.Repeat(s, api.MaxString))
		wantParsed(t, plain(v), v)
	}
}

func TestParseRefuses(t *testing.T) {
	for _, s := range []string{
		"", "?", "??", " ", "a", "nil", "'a'", "`a`", "\x00", "\xff", "\u0661", "\uff11",
		"+1", "+0", "++1", "01", "00", "007", "-0", "-00", "-01", "--1", "+-1", "-+1", "-", "+", "- 1", "1-", "1 ", " 1", "1\n", "1\x00",
		"1_0", "1,0", "1.0", "1.", ".1", "1e3", "0x1", "0b1", "0o1", "1a", "a1", "1 2", "1\"", "\"1", "-\"1\"", "1\"a\"",
		"9223372036854775808", "-9223372036854775809", "18446744073709551615", "18446744073709551616", "99999999999999999999",
		"-99999999999999999999", "09223372036854775807", "1" + strings.Repeat("0", 5000), strings.Repeat("0", 5000), "-" + strings.Repeat("9", 5000),
		`"`, `"a`, `a"`, `"""`, `""""`, `"a""`, `""a"`, `"a"b"`, `"a""b"`, `"a" `, ` "a"`, `"a"1`, `"a"?`, `"a\"`, `"\"`, `"\\\"`, `"\\"\"`,
		`"\x"`, `"\x0"`, `"\x`, `"\x0`, `"\x00`, `"\`, `\"`, `"a\x"`, `"a\xf"`, `"\x\x00"`,
		`"\x41"`, `"\x20"`, `"\x22"`, `"\x5c"`, `"\x7e"`, `"\x61\x00"`,
		`"\x0A"`, `"\x0B"`, `"\x1F"`, `"\xFF"`, `"\xfF"`, `"\xFf"`, `"\x7F"`, `"\xAb"`,
		`"\X00"`, `"\xg0"`, `"\x0g"`, `"\x 0"`, `"\x+1"`, `"\x-1"`, `"\x_1"`, `"\x0_"`, `"\x000`, `"\xx0"`, `"\x\"`,
		`"\n"`, `"\t"`, `"\a"`, `"\0"`, `"\000"`, `"\u0041"`, `"\'"`, `"\ "`,
		"\"\n\"", "\"\x00\"", "\"\x1f\"", "\"\x7f\"", "\"\x80\"", "\"\xff\"", "\"\u00e9\"", "\"\\\n\"", "\"\\\xff\"",
	} {
		wantNothing(t, s)
	}
	for _, n := range []int{api.MaxString + 1, api.MaxString + 2, 1000, 1 << 20} {
		wantNothing(t, "\""+strings.Repeat("b", n)+"\"")
		wantNothing(t, "\""+strings.Repeat("\\\"", n)+"\"")
		wantNothing(t, "\""+strings.Repeat("\\xff", n)+"\"")
	}
}

// Of each byte one form alone says it.
func TestParseEachByte(t *testing.T) {
	for c := range 256 {
		v := str(string([]byte{byte(c)}))
		for _, s := range []string{string([]byte{byte(c)}), "\\" + string([]byte{byte(c)}), fmt.Sprintf("\\x%02x", c), fmt.Sprintf("\\x%02X", c)} {
			if s == written(byte(c)) {
				wantParsed(t, "\""+s+"\"", v)
			} else {
				wantNothing(t, "\""+s+"\"")
			}
		}
	}
}

var (
	intForm = regexp.MustCompile(`\A(0|-?[1-9][0-9]*)\z`)
	strForm = regexp.MustCompile(`\A"(?:[ !#-\[\]-~]|\\["\\]|\\x(?:[01][0-9a-f]|7f|[89a-f][0-9a-f]))*"\z`)
)

// may tells whether a text is one that Text writes of a value that may be.
func may(s string) bool {
	if intForm.MatchString(s) {
		n, _ := new(big.Int).SetString(s, 10)
		return n.IsInt64()
	}
	if !strForm.MatchString(s) {
		return false
	}
	// each \x takes three bytes more than what it says, each other \ one more
	s = strings.ReplaceAll(s[1:len(s)-1], `\\`, "b")
	return len(s)-3*strings.Count(s, `\x`)-strings.Count(s, `\"`) <= api.MaxString
}

// wantForm asks that Parse takes a text just if Text writes it; it tells whether it does.
func wantForm(t *testing.T, s string) bool {
	t.Helper()
	if !may(s) {
		wantNothing(t, s)
		return false
	}
	v, ok := value.Parse(s)
	if !ok || value.Check(v) != api.OK || plain(v) != s {
		t.Errorf("%q: %#v %v", s, v, ok)
	}
	return true
}

// All short texts of some bytes.
func TestParseShortTexts(t *testing.T) {
	n := 0
	var all func(s string, left int)
	all = func(s string, left int) {
		if wantForm(t, s) {
			n++
		}
		if left > 0 {
			for _, c := range "\"\\x01fA-+" {
				all(s+string(c), left-1)
			}
		}
	}
	all("", 6)
	if n < 1000 {
		t.Errorf("only %d are taken", n)
	}
}

// Texts of values with some bytes changed.
func TestParseChangedTexts(t *testing.T) {
	r, n := dice(), 0
	for range 30000 {
		b := []byte(plain(some(r)))
		for range r.IntN(3) {
			i := r.IntN(len(b) + 1)
			switch {
			case r.IntN(3) == 0:
				b = append(b[:i:i], append([]byte{"\"\\x0f-+A \xff"[r.IntN(10)]}, b[i:]...)...)
			case i < len(b) && r.IntN(2) == 0:
				b = append(b[:i:i], b[i+1:]...)
			case i < len(b):
				b[i] = byte(r.Uint32())
			}
		}
		if wantForm(t, string(b)) {
			n++
		}
		wantForm(t, noise(r, r.IntN(5)))
		wantForm(t, "\""+noise(r, r.IntN(3))+"\"")
	}
	if n < 10000 {
		t.Errorf("only %d are taken", n)
	}
}
