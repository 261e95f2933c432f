package match_test

import (
	"math"
	"math/big"
	"math/rand/v2"
	"slices"
	"strconv"
	"strings"
	"testing"

	"eyrie/api"
	"eyrie/bits"
	"eyrie/match"
)

// dice are the same at each run.
func dice() *rand.Rand { return rand.New(rand.NewPCG(100, 101)) }

// Events and partial matches.

func num(n int64) api.Value { return api.Value{Kind: api.VInt, N: n} }

func str(s string) api.Value { return api.Value{Kind: api.VStr, S: s} }

func attr(name string, v api.Value) api.Attr { return api.Attr{Name: name, Value: v} }

// ev is an event of the type A.
func ev(source int, seq, time int64, attrs ...api.Attr) api.Event {
	return api.Event{ID: api.ID{Source: source, Seq: seq}, Time: time, Type: "A", Attrs: attrs}
}

func bound(name string, e api.Event) api.Bound { return api.Bound{Var: name, Event: e} }

func partial(l ...api.Bound) api.Partial { return api.Partial{Bounds: l} }

// timed is a partial match of events at these times.
func timed(times ...int64) api.Partial {
	p := row(len(times))
	for i, t := range times {
		p.Bounds[i].Event.Time = t
	}
	return p
}

// full is as many attributes as may be.
func full() []api.Attr {
	return []api.Attr{attr("A", num(math.MinInt64)), attr("_", str("")), attr("a", num(-1)), attr("a0", str("\x00\xff\"")), attr("b", num(0)),
		attr("c", num(math.MaxInt64)), attr(strings.Repeat("d", api.MaxName), str(strings.Repeat("s", api.MaxString))), attr("e", num(7))}
}

// letters are the first n variables a, b, ..
func letters(n int) []string {
	l := make([]string, n)
	for i := range l {
		l[i] = string(rune('a' + i))
	}
	return l
}

// row is a partial match of the first n variables a, b, ..
func row(n int) api.Partial {
	var p api.Partial
	for i, s := range letters(n) {
		p.Bounds = append(p.Bounds, bound(s, ev(i%3, int64(n-i), int64(10+i))))
	}
	return p
}

// changed is p with other ones at some of its places.
func changed(p api.Partial, with map[int]api.Bound) api.Partial {
	l := slices.Clone(p.Bounds)
	for i, b := range with {
		l[i] = b
	}
	return partial(l...)
}

// badNames are no names; the empty one is another matter.
func badNames() []string {
	return []string{"1", "1a", " ", "a b", "a-b", "a\x00", "\xff", "\u00e9", ".", "~", "a\n", strings.Repeat("a", api.MaxName+1), strings.Repeat("a", 5000)}
}

// names rise, and all of them are names.
func names() []string {
	return []string{"A", "A0", "AA", "Z", "Z9_z", "_", "__", "a", "a0", "aA", "aa", strings.Repeat("b", api.MaxName)}
}

// ordinary are partial matches that may be, with the edges that the chapter names.
func ordinary() []api.Partial {
	l := []api.Partial{{}, {Bounds: []api.Bound{}}, partial(bound("", ev(0, 0, 0))), partial(bound("", ev(api.MaxSources-1, api.MaxTime, api.MaxTime, full()...))),
		partial(bound("a", ev(0, 1, 5)), bound("b", ev(1, 0, 7))), partial(bound("a", ev(1, 0, 7)), bound("b", ev(0, 1, 5))),
		partial(bound("a", ev(0, 1, 5)), bound("b", ev(0, 0, 5)), bound("c", ev(1, 1, 5)))}
	for n := 1; n <= api.MaxTerms; n++ {
		l = append(l, row(n))
	}
	var all, big api.Partial
	for i, s := range names() {
		l = append(l, partial(bound(s, ev(i, 0, 0, full()[:i%9]...))))
		all.Bounds = append(all.Bounds, bound(s, ev(0, int64(i), int64(i*i))))
		big.Bounds = append(big.Bounds, bound(s, ev(i, api.MaxTime, api.MaxTime-int64(i), full()...)))
	}
	return append(l, all, big)
}

// bad is a partial match that may not be, and the error that it asks for.
type bad struct {
	p    api.Partial
	want api.Errno
}

// badEvent is an event that may not be, and the error that it asks for.
type badEvent struct {
	e    api.Event
	want api.Errno
}

// badEvents may not be: the zero event, some of the source 14, and some of sources that there are not.
func badEvents() []badEvent {
	typed := func(s string) api.Event {
		e := ev(14, 2, 3)
		e.Type = s
		return e
	}
	l := []badEvent{{typed(""), api.ErrEvent}, {api.Event{}, api.ErrEvent},
		{ev(14, -1, 0), api.ErrEvent}, {ev(14, api.MaxTime+1, 0), api.ErrEvent}, {ev(14, 0, -1), api.ErrEvent}, {ev(14, 0, api.MaxTime+1), api.ErrEvent},
		{ev(14, math.MinInt64, 0), api.ErrEvent}, {ev(14, 0, math.MaxInt64), api.ErrEvent},
		{ev(-1, 0, 0), api.ErrEvent}, {ev(api.MaxSources, 0, 0), api.ErrEvent}, {ev(math.MinInt, 0, 0), api.ErrEvent},
		{ev(14, 0, 0, append(full(), attr("f", num(1)))...), api.ErrLong}, {ev(14, 0, 0, make([]api.Attr, 1000)...), api.ErrLong},
		{ev(14, 0, 0, attr("", num(1))), api.ErrName}, {ev(14, 0, 0, attr("x", api.Value{})), api.ErrValue},
		{ev(14, 0, 0, attr("x", str(strings.Repeat("a", api.MaxString+1)))), api.ErrValue}, {ev(14, 0, 0, attr("x", api.Value{Kind: api.VInt, S: "a"})), api.ErrValue},
		{ev(14, 0, 0, attr("a", num(1)), attr("a", num(1))), api.ErrOrder}, {ev(14, 0, 0, attr("b", num(1)), attr("a", num(1))), api.ErrOrder}}
	for _, s := range badNames() {
		l = append(l, badEvent{typed(s), api.ErrEvent}, badEvent{ev(14, 0, 0, attr(s, num(1))), api.ErrName})
	}
	return l
}

// By chance.

// Made once, for those that are made by chance: nobody writes to them.
var (
	someAttrs     = full()
	someBadEvents = badEvents()
)

func pick[T any](r *rand.Rand, l ...T) T { return l[r.IntN(len(l))] }

func noise(r *rand.Rand, n int) string {
	b := make([]byte, n)
	for i := range b {
		b[i] = byte(r.Uint32())
	}
	return string(b)
}

// someEvent may be; its ID is one of few.
func someEvent(r *rand.Rand) api.Event {
	e := ev(r.IntN(4), int64(r.IntN(10)), int64(r.IntN(20)))
	e.Type = pick(r, "A", "B", "Long_9")
	if r.IntN(10) == 0 {
		e.ID, e.Time = api.ID{Source: r.IntN(api.MaxSources), Seq: r.Int64N(api.MaxTime + 1)}, r.Int64N(api.MaxTime+1)
	}
	for _, a := range someAttrs {
		if r.IntN(8) == 0 {
			e.Attrs = append(e.Attrs, attr(a.Name, pick(r, a.Value, num(int64(r.Uint64())>>r.IntN(64)), str(noise(r, r.IntN(9))))))
		}
	}
	return e
}

// some is a partial match that may be, of few variables and IDs, so that many have something in common.
func some(r *rand.Rand) api.Partial {
	if r.IntN(12) == 0 {
		return partial(bound("", someEvent(r)))
	}
	var p api.Partial
	chance := 2 + r.IntN(8)
	for _, s := range []string{"A", "A0", "B", "_", "a", "aa", "b", "b_", "c", "d", "e", "f", "g", "long_9", "z"} {
		e := someEvent(r)
		twice := slices.ContainsFunc(p.Bounds, func(b api.Bound) bool { return b.Event.ID == e.ID })
		if r.IntN(chance) == 0 && !twice && len(p.Bounds) < api.MaxTerms {
			p.Bounds = append(p.Bounds, bound(s, e))
		}
	}
	return p
}

// spoilt is a partial match that mostly may not be.
func spoilt(r *rand.Rand) api.Partial {
	p := some(r)
	p.Bounds = slices.Clone(p.Bounds)
	for range 1 + r.IntN(3) {
		if len(p.Bounds) == 0 {
			return partial(bound(pick(r, badNames()...), someEvent(r)))
		}
		i, j := r.IntN(len(p.Bounds)), r.IntN(len(p.Bounds))
		switch r.IntN(7) {
		case 0:
			p.Bounds[i].Var = pick(r, badNames()...)
		case 1:
			p.Bounds[i].Var = ""
		case 2:
			p.Bounds[i].Var, p.Bounds[j].Var = p.Bounds[j].Var, p.Bounds[i].Var
		case 3:
			p.Bounds[i].Var = p.Bounds[j].Var
		case 4:
			p.Bounds[i].Event.ID = p.Bounds[j].Event.ID
		case 5:
			p.Bounds[i].Event = pick(r, someBadEvents...).e
		default:
			p.Bounds = append(p.Bounds, some(r).Bounds...)
		}
	}
	return p
}

// anyhow is a partial match of whatever sort.
func anyhow(r *rand.Rand) api.Partial {
	switch r.IntN(3) {
	case 0:
		return spoilt(r)
	case 1:
		return some(r)
	}
	var p api.Partial
	for range r.IntN(20) >> r.IntN(3) {
		e := api.Event{ID: api.ID{Source: int(r.Uint64()) >> r.IntN(64), Seq: int64(r.Uint64()) >> r.IntN(64)}, Time: int64(r.Uint64()) >> r.IntN(64)}
		p.Bounds = append(p.Bounds, bound(pick(r, "", "a", "b", noise(r, 1), noise(r, 40)), pick(r, e, someEvent(r), pick(r, someBadEvents...).e)))
	}
	return p
}

// What is the same, written out.

func alikeEvents(a, b api.Event) bool {
	return a.ID == b.ID && a.Time == b.Time && a.Type == b.Type && slices.Equal(a.Attrs, b.Attrs)
}

// alike tells of two partial matches whether they are the same, as Same should.
func alike(a, b api.Partial) bool {
	if len(a.Bounds) != len(b.Bounds) {
		return false
	}
	for i := range a.Bounds {
		if a.Bounds[i].Var != b.Bounds[i].Var || !alikeEvents(a.Bounds[i].Event, b.Bounds[i].Event) {
			return false
		}
	}
	return true
}

// none tells whether a partial match is the zero value.
func none(p api.Partial) bool { return p.Bounds == nil }

// shown is a partial match, short.
func shown(p api.Partial) string {
	s := strconv.Itoa(len(p.Bounds)) + ":"
	for i, b := range p.Bounds {
		if i == 20 {
			return s + " .."
		}
		s += " " + strconv.Quote(b.Var[:min(len(b.Var), 50)]) + " " + strconv.Itoa(b.Event.ID.Source) + "." + strconv.FormatInt(b.Event.ID.Seq, 10) +
			" at " + strconv.FormatInt(b.Event.Time, 10) + " " + strconv.Quote(b.Event.Type[:min(len(b.Event.Type), 50)]) + " " + strconv.Itoa(len(b.Event.Attrs))
	}
	return s
}

func shownAll(l []api.Partial) string {
	s := ""
	for _, p := range l {
		s += "(" + shown(p) + ")"
	}
	return s
}

// Memory.

// deep is a partial match in memory of its own, with room behind each list in which something stands.
func deep(p api.Partial) api.Partial {
	l := append(slices.Clone(p.Bounds), bound("behind", api.Event{}))[:len(p.Bounds)]
	for i, b := range l {
		l[i].Event.Attrs = append(slices.Clone(b.Event.Attrs), attr("behind", num(1)))[:len(b.Event.Attrs)]
	}
	return api.Partial{Bounds: l}
}

// untouched tells whether what stands behind the lists of a deep one is what stood there.
func untouched(p api.Partial) bool {
	for _, b := range p.Bounds {
		l := b.Event.Attrs
		if l[:len(l)+1][len(l)] != attr("behind", num(1)) {
			return false
		}
	}
	l := p.Bounds
	return l[:len(l)+1][len(l)].Var == "behind"
}

// spoil writes over all of a partial match, and behind its lists.
func spoil(p api.Partial) {
	for i, b := range p.Bounds {
		spoilEvent(b.Event)
		p.Bounds[i] = bound("spoilt", api.Event{})
	}
	_ = append(p.Bounds, bound("spoilt", api.Event{}), bound("spoilt", api.Event{}))
}

func spoilEvent(e api.Event) {
	for i := range e.Attrs {
		e.Attrs[i] = attr("spoilt", num(9))
	}
	_ = append(e.Attrs, attr("spoilt", num(9)), attr("spoilt", num(9)))
}

// spots are the places in memory of lists, behind their ends, too.
type spots map[any]bool

// take tells whether no list of a partial match has a place that was taken; and takes them.
func (s spots) take(p api.Partial) bool {
	free := true
	l := p.Bounds[:cap(p.Bounds)]
	for i := range l {
		free = free && !s[&l[i]]
		s[&l[i]] = true
	}
	for _, b := range p.Bounds {
		free = s.takeEvent(b.Event) && free
	}
	return free
}

func (s spots) takeEvent(e api.Event) bool {
	free := true
	l := e.Attrs[:cap(e.Attrs)]
	for i := range l {
		free = free && !s[&l[i]]
		s[&l[i]] = true
	}
	return free
}

// Bits as '0' and '1'.

// code is the code that says the natural number v - 1.
func code(v *big.Int) string { return zeros(v.BitLen()-1) + v.Text(2) }

// nat is the code of a natural number.
func nat(u uint64) string {
	v := new(big.Int).SetUint64(u)
	return code(v.Add(v, big.NewInt(1)))
}

// number is the code of a number.
func number(n int64) string {
	v := big.NewInt(n)
	v.Mul(v, big.NewInt(2))
	if n < 0 {
		v.Neg(v)
		v.Sub(v, big.NewInt(1))
	}
	return code(v.Add(v, big.NewInt(1)))
}

// text is the code of a text.
func text(s string) string {
	var b strings.Builder
	b.WriteString(nat(uint64(len(s))))
	for i := range len(s) {
		b.WriteString(wide(int(s[i]), 8))
	}
	return b.String()
}

func zeros(n int) string { return strings.Repeat("0", n) }

// wide is u in n bits.
func wide(u, n int) string {
	t := strconv.FormatInt(int64(u), 2)
	return zeros(n-len(t)) + t
}

// plainEvent is chapter 4's form of an event.
func plainEvent(e api.Event) string {
	t := wide(e.ID.Source, 4) + nat(uint64(e.ID.Seq)) + nat(uint64(e.Time)) + text(e.Type) + wide(len(e.Attrs), 4)
	for _, a := range e.Attrs {
		t += text(a.Name) + wide(a.Value.Kind, 2)
		if a.Value.Kind == api.VInt {
			t += number(a.Value.N)
		} else {
			t += text(a.Value.S)
		}
	}
	return t
}

// plain is the chapter's form of a partial match.
func plain(p api.Partial) string {
	t := wide(len(p.Bounds), 4)
	for _, b := range p.Bounds {
		t += text(b.Var) + plainEvent(b.Event)
	}
	return t
}

// packed is bits up to the end of a byte.
func packed(text string) []byte {
	text += zeros((8 - len(text)%8) % 8)
	b := make([]byte, len(text)/8)
	for i := range text {
		b[i/8] = b[i/8]<<1 | (text[i] - '0')
	}
	return b
}

// sourceOf is a source to which just these bits are left.
func sourceOf(t *testing.T, text string) *bits.Source {
	t.Helper()
	pad := (8 - len(text)%8) % 8
	s := bits.NewSource(packed(strings.Repeat("1", pad) + text))
	if _, err := s.Bits(pad); err != api.OK || s.Left() != len(text) {
		t.Fatalf("a source of %d bits: error %d, Left %d", len(text), err, s.Left())
	}
	return s
}

// rest takes all that is left.
func rest(s *bits.Source) string {
	var all strings.Builder
	for s.Left() > 0 {
		if f, _ := s.Flag(); f {
			all.WriteByte('1')
		} else {
			all.WriteByte('0')
		}
	}
	return all.String()
}

// held is what a sink holds.
func held(s *bits.Sink) string { return rest(bits.NewSource(s.Out()))[:s.Len()] }

// sinkOf is a sink with n bits: a 1 and a 0 by turns.
func sinkOf(t *testing.T, n int) *bits.Sink {
	t.Helper()
	l := make([]bool, n)
	for i := range l {
		l[i] = i%2 == 0
	}
	s := bits.NewSink()
	if err := s.Flags(l...); err != api.OK || s.Len() != n {
		t.Fatalf("a sink of %d bits: error %d, Len %d", n, err, s.Len())
	}
	return s
}

// byBytes is a partial match's bytes; it fails if there are none.
func byBytes(t *testing.T, p api.Partial) []byte {
	t.Helper()
	b, err := match.Bytes(p)
	if err != api.OK {
		t.Fatalf("%s: error %d", shown(p), err)
	}
	return b
}
