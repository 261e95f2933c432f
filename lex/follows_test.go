package lex_test

import (
	"math/rand/v2"
	"slices"
	"testing"

	"eyrie/api"
	"eyrie/lex"
)

// unplaced is words with no places.
func unplaced(l []api.Token) []api.Token {
	l = slices.Clone(l)
	for i := range l {
		l[i].At = 0
	}
	return l
}

// P5.4

func wantThereAndBack(t *testing.T, l []api.Token) {
	t.Helper()
	s, err := lex.Join(l...)
	if err != api.OK {
		t.Fatalf("%v: error %d", l, err)
	}
	got, at, err := lex.Scan(s)
	if err != api.OK || at != 0 || !slices.Equal(unplaced(got), unplaced(l)) {
		t.Errorf("%v: back %v, place %d, error %d", l, got, at, err)
	}
	wantPlaces(t, s)
}

func TestScanOfJoin(t *testing.T) {
	wantThereAndBack(t, nil)
	for _, a := range words() {
		wantThereAndBack(t, []api.Token{a})
		for _, b := range words() {
			wantThereAndBack(t, []api.Token{a, b})
			wantThereAndBack(t, []api.Token{a, b, a, a, b})
		}
	}
	r := dice()
	for range 5000 {
		var l []api.Token
		for range r.IntN(15) {
			w := someWord(r)
			w.At = r.IntN(100) - 50
			l = append(l, w)
		}
		wantThereAndBack(t, l)
	}
}

// P5.5

// wantPlaces asks that each word of a text stands at its place, and blanks alone around the words.
func wantPlaces(t *testing.T, text string) {
	t.Helper()
	l, _, err := lex.Scan(text)
	if err != api.OK {
		t.Fatalf("%q: error %d", text, err)
	}
	end := 0
	for _, w := range l {
		if w.Text == "" || w.At < end || w.At+len(w.Text) > len(text) || text[w.At:w.At+len(w.Text)] != w.Text {
			t.Fatalf("%q: %v does not stand there", text, w)
		}
		if modelBlank(text[:w.At], end) != w.At || lex.Blank(text, end) != w.At {
			t.Errorf("%q: no blanks ahead of %v", text, w)
		}
		end = w.At + len(w.Text)
	}
	if modelBlank(text, end) != len(text) {
		t.Errorf("%q: no blanks behind %d", text, end)
	}
}

// spread is words with blanks around them, each with its place; where two may be told from each other without blanks, there may be none.
func spread(r *rand.Rand, l []api.Token) (string, []api.Token) {
	text, apart := someBlank(r, false), []api.Token{}
	for i, w := range l {
		w.At = len(text)
		apart = append(apart, w)
		text += w.Text
		need := false
		if i+1 < len(l) {
			both, _, err := model(w.Text + l[i+1].Text)
			need = err != api.OK || !slices.Equal(unplaced(both), unplaced(l[i:i+2]))
		}
		text += someBlank(r, need)
	}
	return text, apart
}

func TestPlaces(t *testing.T) {
	r := dice()
	for range 5000 {
		var l []api.Token
		for range r.IntN(10) {
			l = append(l, someWord(r))
		}
		text, apart := spread(r, l)
		wantWords(t, text, apart...)
		wantPlaces(t, text)
		wantPlaces(t, text+"#"+text)
	}
}

// R6: the same calls answer the same.
func TestAgain(t *testing.T) {
	r := dice()
	for range 200 {
		s := noise(r, 1+r.IntN(20))
		a, at, err := lex.Scan(s)
		b, also, is := lex.Scan(s)
		if !slices.Equal(a, b) || at != also || err != is {
			t.Errorf("%q: %v %d %d, then %v %d %d", s, a, at, err, b, also, is)
		}
	}
}
