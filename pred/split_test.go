package pred_test

import (
	"slices"
	"strings"
	"testing"

	"eyrie/api"
)

// P9.2: Names, Ready

func TestNames(t *testing.T) {
	wantNames(t, cond(constant(num(1)), api.RelEq, constant(str("a"))))
	wantNames(t, api.Cond{})
	wantNames(t, one(t, "a.x = 1"), "a")
	wantNames(t, one(t, "1 = a.x"), "a")
	wantNames(t, one(t, "a.x = b.x"), "a", "b")
	wantNames(t, one(t, "b.x = a.x"), "a", "b")
	wantNames(t, one(t, "a.x = a.x"), "a")
	wantNames(t, one(t, "a.x < a.y"), "a")
	// a constant's Var is none, a Rel and a Value count for nothing
	wantNames(t, cond(api.Operand{Var: "a", Value: num(1)}, 77, api.Operand{Var: "b"}))
	wantNames(t, cond(api.Operand{Var: "b", Value: num(1)}, -1, attr("a", "x")), "a")
	wantNames(t, cond(api.Operand{Var: "b", Attr: "y", Value: str("s")}, 0, attr("a", "x")), "a", "b")
}

// An operand that is no constant and has no Var has the empty one.
func TestNamesOfTheEmptyVar(t *testing.T) {
	wantNames(t, one(t, "x > 3"), "")
	wantNames(t, one(t, "x > y"), "")
	wantNames(t, cond(attr("a", "x"), api.RelEq, attr("", "x")), "", "a")
	wantNames(t, cond(attr("", "x"), api.RelEq, attr("a", "x")), "", "a")
}

// Names rise byte by byte, a beginning being less.
func TestNamesRise(t *testing.T) {
	names := []string{"", "\x00", "A", "Z", "_", "a", "a\x00", "a0", "a10", "a2", "aa", "b", "\xff", strings.Repeat("\xff", 50)}
	for i, a := range names {
		for j, b := range names {
			want := []string{names[min(i, j)], names[max(i, j)]}
			wantNames(t, cond(attr(a, "x"), api.RelEq, attr(b, "y")), slices.Compact(want)...)
		}
	}
}

func TestReady(t *testing.T) {
	both := one(t, "b.x = a.x")
	wantReady(t, both, false)
	wantReady(t, both, false, "a")
	wantReady(t, both, false, "b")
	wantReady(t, both, false, "a", "a", "A", "ab", "", "c")
	wantReady(t, both, true, "a", "b")
	wantReady(t, both, true, "b", "a")
	wantReady(t, both, true, "c", "b", "b", "d", "a", "a")
	for _, text := range []string{"a.x = 1", "1 = a.x", "a.x < a.y"} {
		wantReady(t, one(t, text), false)
		wantReady(t, one(t, text), false, "b", "", "aa", "x", "y")
		wantReady(t, one(t, text), true, "a")
		wantReady(t, one(t, text), true, "b", "a", "a")
	}
}

// What has no variables is always Ready.
func TestReadyOfConstants(t *testing.T) {
	for _, c := range []api.Cond{{}, cond(constant(num(1)), api.RelEq, constant(num(2))), cond(api.Operand{Var: "a"}, 0, api.Operand{Var: "b", Value: num(1)})} {
		wantReady(t, c, true)
		wantReady(t, c, true, "a")
		wantReady(t, c, true, "", "c")
	}
}

// The empty Var is a variable as any other.
func TestReadyOfTheEmptyVar(t *testing.T) {
	wantReady(t, one(t, "x > 3"), false)
	wantReady(t, one(t, "x > 3"), false, "a", "x")
	wantReady(t, one(t, "x > 3"), true, "a", "")
	wantReady(t, cond(attr("", "x"), api.RelEq, attr("a", "x")), false, "a")
	wantReady(t, cond(attr("", "x"), api.RelEq, attr("a", "x")), true, "a", "")
}

// P9.3: Split

func TestSplit(t *testing.T) {
	l := conds(t, "a.x = b.x, a.x > 3, c.x < a.y, 2 >= b.y, c.x = c.y, b.x = a.x, a.x > 3")
	at := func(places ...int) []api.Cond {
		var some []api.Cond
		for _, i := range places {
			some = append(some, l[i])
		}
		return some
	}
	wantSplit(t, l, nil, nil, l)
	wantSplit(t, l, []string{}, nil, l)
	wantSplit(t, l, []string{"d", ""}, nil, l)
	wantSplit(t, l, []string{"a"}, at(1, 6), at(0, 2, 3, 4, 5))
	wantSplit(t, l, []string{"b", "a"}, at(0, 1, 3, 5, 6), at(2, 4))
	wantSplit(t, l, []string{"c", "a", "c"}, at(1, 2, 4, 6), at(0, 3, 5))
	wantSplit(t, l, []string{"a", "b", "c"}, l, nil)
	wantSplit(t, l, []string{"e", "c", "d", "b", "a", "c"}, l, nil)
	wantSplit(t, nil, []string{"a"}, nil, nil)
	wantSplit(t, []api.Cond{}, []string{"a"}, nil, nil)
	wantSplit(t, nil, nil, nil, nil)
}

// Conditions without variables are always in the first part, and what a condition says counts for nothing.
func TestSplitOfConstants(t *testing.T) {
	l := []api.Cond{{}, one(t, "x > 3"), cond(constant(num(1)), api.RelEq, constant(num(2))), one(t, "a.x = 1"), {Rel: 77}}
	wantSplit(t, l, nil, []api.Cond{l[0], l[2], l[4]}, []api.Cond{l[1], l[3]})
	wantSplit(t, l, []string{""}, []api.Cond{l[0], l[1], l[2], l[4]}, []api.Cond{l[3]})
	wantSplit(t, l, []string{"a"}, []api.Cond{l[0], l[2], l[3], l[4]}, []api.Cond{l[1]})
}

// Both parts in order, in lists of each length.
func TestSplitKeepsOrder(t *testing.T) {
	for n := range 60 {
		var l, first, second []api.Cond
		for i := range n {
			c := cond(attr("a", "x"), api.RelEq, constant(num(int64(n-i))))
			if i%3 == 0 {
				c.Left.Var = "b"
				second = append(second, c)
			} else {
				first = append(first, c)
			}
			l = append(l, c)
		}
		wantSplit(t, l, []string{"a"}, first, second)
		wantSplit(t, l, []string{"b", "c"}, second, first)
		wantSplit(t, l, []string{"b", "a"}, l, nil)
		wantSplit(t, l, []string{"c"}, nil, l)
	}
}
