package value_test

import (
	"testing"

	"eyrie/api"
	"eyrie/value"
)

// P3.2

func wantHolds(t *testing.T, rel int, a, b api.Value, want bool) {
	t.Helper()
	if value.Holds(rel, a, b) != want {
		t.Errorf("relation %d of %#v, %#v: %v", rel, a, b, !want)
	}
}

// so tells whether a relation is so of two values of which the first one is less (-1), the same (0) or greater (1).
func so(rel, order int) bool {
	at := map[int]string{api.RelEq: "=", api.RelNe: "<>", api.RelLt: "<", api.RelLe: "<=", api.RelGt: ">", api.RelGe: "=>"}
	for _, c := range at[rel] {
		if c == rune("<=>"[order+1]) {
			return true
		}
	}
	return false
}

func TestHolds(t *testing.T) {
	for _, rel := range rels() {
		for i, n := range numbers() {
			for j, m := range numbers() {
				wantHolds(t, rel, num(n), num(m), so(rel, sign(i, j)))
			}
		}
		for i, s := range words() {
			for j, u := range words() {
				wantHolds(t, rel, str(s), str(u), so(rel, sign(i, j)))
			}
		}
	}
}

// What is not compared: an int is another one than a string, and nothing else holds.
func TestHoldsUnlike(t *testing.T) {
	for _, rel := range rels() {
		for _, s := range words() {
			for _, n := range []int64{-1, 0, 1} {
				wantHolds(t, rel, num(n), str(s), rel == api.RelNe)
				wantHolds(t, rel, str(s), num(n), rel == api.RelNe)
			}
		}
	}
	wantHolds(t, api.RelNe, num(1), str("1"), true)
	wantHolds(t, api.RelLt, num(1), str("1"), false)
}

// Of what is no value no relation holds, RelNe neither.
func TestHoldsOfNothing(t *testing.T) {
	for _, rel := range rels() {
		for _, a := range nothings() {
			for _, b := range append(nothings(), num(0), num(1), str(""), str("a")) {
				wantHolds(t, rel, a, b, false)
				wantHolds(t, rel, b, a, false)
			}
		}
	}
}

// turned are, of each relation, those that Swap and Not answer.
func turned() map[int][2]int {
	return map[int][2]int{
		api.RelEq: {api.RelEq, api.RelNe},
		api.RelNe: {api.RelNe, api.RelEq},
		api.RelLt: {api.RelGt, api.RelGe},
		api.RelLe: {api.RelGe, api.RelGt},
		api.RelGt: {api.RelLt, api.RelLe},
		api.RelGe: {api.RelLe, api.RelLt},
	}
}

func TestSwapAndNot(t *testing.T) {
	want := turned() // of a relation that is none: 0, and 0
	for _, rel := range rels() {
		if n := value.Swap(rel); n != want[rel][0] {
			t.Errorf("Swap(%d): %d", rel, n)
		}
		if n := value.Not(rel); n != want[rel][1] {
			t.Errorf("Not(%d): %d", rel, n)
		}
	}
}
