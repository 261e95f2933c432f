package value_test

import (
	"math"
	"math/rand/v2"
	"strings"

	"eyrie/api"
)

// dice are the same at each run.
func dice() *rand.Rand { return rand.New(rand.NewPCG(30, 31)) }

func num(n int64) api.Value { return api.Value{Kind: api.VInt, N: n} }

func str(s string) api.Value { return api.Value{Kind: api.VStr, S: s} }

// named is an attribute whose value is of no matter.
func named(name string) api.Attr { return api.Attr{Name: name, Value: num(1)} }

// list is attributes of these names, with values of which no two are the same.
func list(names ...string) []api.Attr {
	var l []api.Attr
	for i, s := range names {
		l = append(l, api.Attr{Name: s, Value: num(int64(i))})
	}
	return l
}

// numbers are ints that rise.
func numbers() []int64 {
	return []int64{math.MinInt64, math.MinInt64 + 1, -1 << 53, -1<<32 - 1, -1 << 32, -1 << 31, -256, -10, -9, -2, -1, 0, 1, 2, 9, 10, 11,
		99, 100, 255, 256, 1<<31 - 1, 1 << 31, 1 << 32, 1<<53 + 1, math.MaxInt64 - 1, math.MaxInt64}
}

// words are strings that rise, by bytes: in many of them one begins the next one.
func words() []string {
	return []string{"", "\x00", "\x00\x00", "\x00a", "\t", " ", "\"", "-1", "0", "1", "10", "2", "A", "Z", "\\", "_", "a", "a\x00", "aa", "ab",
		"b", "ba", "x", "x41", "z", "~", "\x7f", "\x80", "\xc3", "\xc3\xa9", "\xe5\x90\x8d", "\xff", "\xff\x00", "\xff\xff"}
}

// values are values that may be.
func values() []api.Value {
	var l []api.Value
	for _, n := range numbers() {
		l = append(l, num(n))
	}
	for _, s := range words() {
		l = append(l, str(s))
	}
	for c := range 256 {
		l = append(l, str(string([]byte{byte(c)})))
	}
	for _, s := range []string{"a", "\"", "\\", "\x00", "\xff", "x"} {
		l = append(l, str(strings.Repeat(s, api.MaxString-1)), str(strings.Repeat(s, api.MaxString)))
	}
	return l
}

// kinds are numbers that are no Kind of a value, VNone among them.
func kinds() []int {
	return []int{api.VNone, 3, 4, -1, -2, 256, 257, 258, 1<<32 + 1, 1<<32 + 2, math.MinInt, math.MaxInt}
}

// nothings are values of no Kind.
func nothings() []api.Value {
	var l []api.Value
	for _, k := range kinds() {
		l = append(l, api.Value{Kind: k}, api.Value{Kind: k, N: 1}, api.Value{Kind: k, S: "a"}, api.Value{Kind: k, N: -7, S: "?"})
	}
	return l
}

// refused are values that may not be.
func refused() []api.Value {
	l := nothings()
	for _, s := range []string{" ", "\x00", "1", "a", strings.Repeat("a", api.MaxString+1)} {
		l = append(l, api.Value{Kind: api.VInt, S: s}, api.Value{Kind: api.VInt, N: 1, S: s})
	}
	for _, n := range []int64{1, -1, 1 << 32, math.MinInt64, math.MaxInt64} {
		l = append(l, api.Value{Kind: api.VStr, N: n}, api.Value{Kind: api.VStr, N: n, S: "a"})
	}
	for _, n := range []int{api.MaxString + 1, api.MaxString + 2, 2 * api.MaxString, 256 + 1, 1 << 20} {
		l = append(l, str(strings.Repeat("a", n)), str(strings.Repeat("\xff", n)), api.Value{Kind: api.VStr, N: 1, S: strings.Repeat("a", n)})
	}
	// so many letters would have place, so many bytes have not
	return append(l, str(strings.Repeat("\u00e9", api.MaxString/2+1)))
}

// rels are relations, and numbers around and far from them that are none.
func rels() []int {
	return []int{math.MinInt, -6, -1, 0, api.RelEq, api.RelNe, api.RelLt, api.RelLe, api.RelGt, api.RelGe, 7, 8, 256 + 1, 1<<32 + 2, math.MaxInt}
}

func isRel(n int) bool { return n >= api.RelEq && n <= api.RelGe }

// some is a value that may be, by chance; short strings of few bytes, so that many are alike or begin each other.
func some(r *rand.Rand) api.Value {
	switch r.IntN(4) {
	case 0:
		return num(int64(r.Uint64()) >> r.IntN(64))
	case 1:
		return num(r.Int64N(5) - 2)
	case 2:
		return str(noise(r, r.IntN(api.MaxString+1)))
	}
	b := make([]byte, r.IntN(4))
	for i := range b {
		b[i] = "ab\"\\x\xff"[r.IntN(6)]
	}
	return str(string(b))
}

// noise is n bytes of any sort.
func noise(r *rand.Rand, n int) string {
	b := make([]byte, n)
	for i := range b {
		b[i] = byte(r.Uint32())
	}
	return string(b)
}
