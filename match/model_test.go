package match_test

import (
	"math/big"
	"regexp"
	"slices"
	"sort"
	"strings"
	"testing"

	"eyrie/api"
	"eyrie/event"
	"eyrie/match"
)

// The chapter's words, written anew, as plainly as can be.

var isName = regexp.MustCompile(`^[A-Za-z_][A-Za-z0-9_]{0,31}$`)

func modelCheck(p api.Partial) api.Errno {
	if len(p.Bounds) >= 13 {
		return api.ErrPartial
	}
	last, ids := "", map[api.ID]bool{}
	for _, b := range p.Bounds {
		may := isName.MatchString(b.Var) && !strings.HasSuffix(b.Var, "\n") || b.Var == "" && len(p.Bounds) == 1
		rises := len(ids) == 0 || strings.Compare(b.Var, last) > 0
		if !may || !rises || ids[b.Event.ID] {
			return api.ErrPartial
		}
		if err := event.Check(b.Event); err != api.OK {
			return err
		}
		last, ids[b.Event.ID] = b.Var, true
	}
	return api.OK
}

func modelMerge(a, b api.Partial) (api.Partial, bool) {
	if modelCheck(a) != api.OK || modelCheck(b) != api.OK {
		return api.Partial{}, false
	}
	vars := map[string]api.Event{}
	for _, x := range append(slices.Clone(a.Bounds), b.Bounds...) {
		if _, twice := vars[x.Var]; twice {
			return api.Partial{}, false
		}
		vars[x.Var] = x.Event
	}
	var rising []string
	for s := range vars {
		rising = append(rising, s)
	}
	sort.Strings(rising)
	var p api.Partial
	for _, s := range rising {
		p.Bounds = append(p.Bounds, bound(s, vars[s]))
	}
	return p, modelCheck(p) == api.OK
}

// modelTimes are the times of its events, sorted, as numbers of any length: 0 alone, if it has none.
func modelTimes(p api.Partial) []*big.Int {
	var l []*big.Int
	for _, b := range p.Bounds {
		l = append(l, big.NewInt(b.Event.Time))
	}
	if l == nil {
		l = append(l, big.NewInt(0))
	}
	slices.SortFunc(l, func(a, b *big.Int) int { return a.Cmp(b) })
	return l
}

func modelWithin(p api.Partial, window int64) bool {
	l := modelTimes(p)
	wide := new(big.Int).Sub(l[len(l)-1], l[0])
	return wide.Cmp(big.NewInt(window)) <= 0
}

func modelGet(p api.Partial, name string) (e api.Event, is bool) {
	for i := len(p.Bounds) - 1; i >= 0; i-- { // the first one is left
		if p.Bounds[i].Var == name {
			e, is = p.Bounds[i].Event, true
		}
	}
	return e, is
}

func modelCompare(a, b api.Partial) int {
	for i := 0; ; i++ {
		if i == len(a.Bounds) && i == len(b.Bounds) {
			return 0
		}
		if i == len(a.Bounds) {
			return -1
		}
		if i == len(b.Bounds) {
			return 1
		}
		x, y := a.Bounds[i], b.Bounds[i]
		less := x.Var < y.Var || x.Var == y.Var && (x.Event.ID.Source < y.Event.ID.Source || x.Event.ID.Source == y.Event.ID.Source && x.Event.ID.Seq < y.Event.ID.Seq)
		if less {
			return -1
		}
		if x.Var != y.Var || x.Event.ID != y.Event.ID {
			return 1
		}
	}
}

// model reads bits ('0' and '1') in the chapter's way, by numbers of any length; it gives up by a panic with the error.
type model struct {
	text string
	at   int
}

func (m *model) left() string { return m.text[m.at:] }

func (m *model) wide(n int) int {
	if len(m.left()) < n {
		panic(api.ErrEnds)
	}
	v, _ := new(big.Int).SetString(m.left()[:n], 2)
	m.at += n
	return int(v.Int64())
}

func (m *model) nat() *big.Int {
	t := m.left()
	if strings.HasPrefix(t, zeros(65)) {
		panic(api.ErrCode)
	}
	k := strings.IndexByte(t, '1')
	if k < 0 || len(t) < 2*k+1 {
		panic(api.ErrEnds)
	}
	v, _ := new(big.Int).SetString(t[k:2*k+1], 2)
	v.Sub(v, big.NewInt(1))
	if !v.IsUint64() {
		panic(api.ErrCode)
	}
	m.at += 2*k + 1
	return v
}

func (m *model) num() int64 {
	v := m.nat()
	odd := v.Bit(0) == 1
	v.Rsh(v, 1)
	if odd {
		v.Not(v)
	}
	return v.Int64()
}

func (m *model) word() string {
	n := m.nat()
	if !n.IsInt64() || n.Int64() > int64(len(m.left())/8) {
		panic(api.ErrEnds)
	}
	b := make([]byte, n.Int64())
	for i := range b {
		b[i] = byte(m.wide(8))
	}
	return string(b)
}

// event is the event that comes next, in chapter 4's way: what event.Check says of it comes when all of it was read.
func (m *model) event() api.Event {
	var e api.Event
	e.ID.Source = m.wide(4)
	seq, time := m.nat(), m.nat()
	e.Type = m.word()
	many := m.wide(4)
	if many > api.MaxAttrs {
		panic(api.ErrEvent)
	}
	for range many {
		a := api.Attr{Name: m.word()}
		switch a.Value.Kind = m.wide(2); a.Value.Kind {
		case api.VInt:
			a.Value.N = m.num()
		case api.VStr:
			a.Value.S = m.word()
		default:
			panic(api.ErrEvent)
		}
		e.Attrs = append(e.Attrs, a)
	}
	if most := big.NewInt(api.MaxTime); seq.Cmp(most) > 0 || time.Cmp(most) > 0 {
		panic(api.ErrEvent)
	}
	e.ID.Seq, e.Time = seq.Int64(), time.Int64()
	if err := event.Check(e); err != api.OK {
		panic(err)
	}
	return e
}

// partial is the partial match that comes next: what Check says of it comes when all of it was read.
func (m *model) partial() api.Partial {
	many := m.wide(4)
	if many > 12 {
		panic(api.ErrPartial)
	}
	var p api.Partial
	for range many {
		name := m.word()
		p.Bounds = append(p.Bounds, bound(name, m.event()))
	}
	if err := modelCheck(p); err != api.OK {
		panic(err)
	}
	return p
}

// taken is what Take should answer of bits, and how many it should take.
func taken(text string) (p api.Partial, n int, err api.Errno) {
	defer func() {
		if x := recover(); x != nil {
			p, n, err = api.Partial{}, 0, x.(api.Errno)
		}
	}()
	m := &model{text: text}
	p = m.partial()
	return p, m.at, api.OK
}

// parsed is what Parse should answer of bytes that have these bits.
func parsed(text string) (api.Partial, api.Errno) {
	p, n, err := taken(text)
	if err == api.OK && (len(text)-n >= 8 || strings.Contains(text[n:], "1")) {
		return api.Partial{}, api.ErrMore
	}
	return p, err
}

// modelSet is partial matches, in the order in which they were put in.
type modelSet []api.Partial

func (s *modelSet) add(p api.Partial) bool {
	if modelCheck(p) != api.OK || s.has(p) {
		return false
	}
	*s = append(*s, match.Clone(p))
	return true
}

func (s modelSet) has(p api.Partial) bool {
	return slices.ContainsFunc(s, func(o api.Partial) bool { return modelCompare(o, p) == 0 })
}

// all are they, put in order one by one.
func (s modelSet) all() []api.Partial {
	var l []api.Partial
	for _, p := range s {
		i := 0
		for i < len(l) && modelCompare(l[i], p) < 0 {
			i++
		}
		l = slices.Insert(l, i, p)
	}
	return l
}

// counted counts how often each answer comes, so that none is left out.
type counted[T comparable] map[T]int

func (n counted[T]) many(t *testing.T, what string, least int, of ...T) {
	t.Helper()
	for _, x := range of {
		if n[x] < least {
			t.Errorf("%s: %v came only %d times: %v", what, x, n[x], n)
		}
	}
}
