package value_test

import (
	"math"
	"strings"
	"testing"

	"eyrie/api"
	"eyrie/value"
)

// P3.1

func TestCheckTakes(t *testing.T) {
	for _, v := range append(values(), str(strings.Repeat("\u00e9", api.MaxString/2))) {
		if err := value.Check(v); err != api.OK {
			t.Errorf("%#v: error %d", v, err)
		}
	}
}

func TestCheckRefuses(t *testing.T) {
	for _, v := range refused() {
		if err := value.Check(v); err != api.ErrValue {
			t.Errorf("kind %d, N %d, %d bytes: error %d", v.Kind, v.N, len(v.S), err)
		}
	}
}

const (
	letters = "abcdefghijklmnopqrstuvwxyzABCDEFGHIJKLMNOPQRSTUVWXYZ_"
	digits  = "0123456789"
)

func wantName(t *testing.T, s string, want bool) {
	t.Helper()
	if value.Name(s) != want {
		t.Errorf("%d bytes %.80q: %v", len(s), s, !want)
	}
}

func TestName(t *testing.T) {
	for _, s := range []string{"a", "z", "A", "Z", "_", "__", "x1", "_1", "a_b", "Abc9", "a0123456789", letters[:api.MaxName], letters[21:]} {
		wantName(t, s, true)
	}
	for _, s := range []string{"", "1", "1a", "12", "-", "-a", "a-b", "a.b", "a b", " a", "a ", "a\n", "a\x00", "\x00", "\u00e9", "a\u00e9",
		"\u540d", "\uff41", "\u0661", "a\u0661", "\xff", letters, digits} {
		wantName(t, s, false)
	}
}

// Each byte first, in the middle and last.
func TestNameBytes(t *testing.T) {
	for c := range 256 {
		s := string([]byte{byte(c)})
		first := strings.Contains(letters, s)
		behind := strings.Contains(letters+digits, s)
		wantName(t, s, first)
		wantName(t, s+"a", first)
		wantName(t, "a"+s, behind)
		wantName(t, "_"+s+"Z", behind)
		wantName(t, strings.Repeat("a", api.MaxName-1)+s, behind)
		wantName(t, strings.Repeat("a", api.MaxName)+s, false)
	}
}

func TestNameLength(t *testing.T) {
	for n := range 3 * api.MaxName {
		want := n >= 1 && n <= api.MaxName
		wantName(t, strings.Repeat("a", n), want)
		wantName(t, strings.Repeat("_", n), want)
		wantName(t, strings.Repeat("1", n), false)
	}
	wantName(t, strings.Repeat("a", 1<<20), false)
}

// P3.2

func wantOrder(t *testing.T, a, b api.Value, want int, compared bool) {
	t.Helper()
	if n, ok := value.Compare(a, b); n != want || ok != compared {
		t.Errorf("%#v, %#v: %d %v", a, b, n, ok)
	}
}

// sign is how two places of a list that rises stand to each other.
func sign(i, j int) int {
	switch {
	case i < j:
		return -1
	case i > j:
		return 1
	}
	return 0
}

func TestCompareInts(t *testing.T) {
	for i, n := range numbers() {
		for j, m := range numbers() {
			wantOrder(t, num(n), num(m), sign(i, j), true)
		}
	}
}

func TestCompareStrings(t *testing.T) {
	for i, s := range words() {
		for j, u := range words() {
			wantOrder(t, str(s), str(u), sign(i, j), true)
		}
	}
	long := strings.Repeat("a", api.MaxString)
	wantOrder(t, str(long), str(long), 0, true)
	wantOrder(t, str(long[1:]), str(long), -1, true)
	wantOrder(t, str(long[1:]+"b"), str(long), 1, true)
	// of strings that Check refuses, too
	wantOrder(t, str(long+"a"), str(long+"b"), -1, true)
}

// Of ints S counts for nothing, of strings N.
func TestCompareByItsField(t *testing.T) {
	for _, s := range []string{"", "a", "b"} {
		wantOrder(t, api.Value{Kind: api.VInt, N: 1, S: "a"}, api.Value{Kind: api.VInt, N: 1, S: s}, 0, true)
		wantOrder(t, api.Value{Kind: api.VInt, N: 1, S: "a"}, api.Value{Kind: api.VInt, N: 2, S: s}, -1, true)
	}
	for _, n := range []int64{math.MinInt64, 0, 1, math.MaxInt64} {
		wantOrder(t, api.Value{Kind: api.VStr, N: 1, S: "a"}, api.Value{Kind: api.VStr, N: n, S: "a"}, 0, true)
		wantOrder(t, api.Value{Kind: api.VStr, N: 1, S: "b"}, api.Value{Kind: api.VStr, N: n, S: "a"}, 1, true)
	}
}

func TestCompareUnlike(t *testing.T) {
	for _, a := range []api.Value{num(0), num(1), num(-1)} {
		for _, b := range []api.Value{str(""), str("0"), str("1"), str("z")} {
			wantOrder(t, a, b, 0, false)
			wantOrder(t, b, a, 0, false)
		}
	}
	for _, a := range nothings() {
		for _, b := range append(nothings(), num(0), num(9), str(""), str("a")) {
			wantOrder(t, a, b, 0, false)
			wantOrder(t, b, a, 0, false)
		}
	}
}
