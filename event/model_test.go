package event_test

import (
	"math/big"
	"slices"
	"strings"

	"eyrie/api"
	"eyrie/value"
)

// model reads bits ('0' and '1') in the chapter's way, by numbers of any length; it gives up by a panic with the error.
type model struct {
	text string
	at   int
}

func (m *model) left() string { return m.text[m.at:] }

func (m *model) wide(n int) int {
	if len(m.left()) < n {
		panic(api.ErrEnds)
	}
	v, _ := new(big.Int).SetString(m.left()[:n], 2)
	m.at += n
	return int(v.Int64())
}

func (m *model) nat() *big.Int {
	t := m.left()
	if strings.HasPrefix(t, zeros(65)) {
		panic(api.ErrCode)
	}
	k := strings.IndexByte(t, '1')
	if k < 0 || len(t) < 2*k+1 {
		panic(api.ErrEnds)
	}
	v, _ := new(big.Int).SetString(t[k:2*k+1], 2)
	v.Sub(v, big.NewInt(1))
	if !v.IsUint64() {
		panic(api.ErrCode)
	}
	m.at += 2*k + 1
	return v
}

func (m *model) num() int64 {
	v := m.nat()
	odd := v.Bit(0) == 1
	v.Rsh(v, 1)
	if odd {
		v.Not(v)
	}
	return v.Int64()
}

func (m *model) word() string {
	n := m.nat()
	if !n.IsInt64() || n.Int64() > int64(len(m.left())/8) {
		panic(api.ErrEnds)
	}
	b := make([]byte, n.Int64())
	for i := range b {
		b[i] = byte(m.wide(8))
	}
	return string(b)
}

// event is the event that comes next; the error is told when all was read.
func (m *model) event() api.Event {
	var e api.Event
	e.ID.Source = m.wide(4)
	seq, time := m.nat(), m.nat()
	e.Type = m.word()
	many := m.wide(4)
	if many > api.MaxAttrs {
		panic(api.ErrEvent)
	}
	for range many {
		a := api.Attr{Name: m.word()}
		switch a.Value.Kind = m.wide(2); a.Value.Kind {
		case api.VInt:
			a.Value.N = m.num()
		case api.VStr:
			a.Value.S = m.word()
		default:
			panic(api.ErrEvent)
		}
		e.Attrs = append(e.Attrs, a)
	}
	most := big.NewInt(api.MaxTime)
	if seq.Cmp(most) > 0 || time.Cmp(most) > 0 || !value.Name(e.Type) {
		panic(api.ErrEvent)
	}
	if err := value.CheckAttrs(e.Attrs); err != api.OK {
		panic(err)
	}
	e.ID.Seq, e.Time = seq.Int64(), time.Int64()
	return e
}

// taken is what Take should answer of bits, and how many it should take.
func taken(text string) (e api.Event, n int, err api.Errno) {
	defer func() {
		if x, ok := recover().(api.Errno); ok {
			e, n, err = api.Event{}, 0, x
		}
	}()
	m := &model{text: text}
	e = m.event()
	return e, m.at, api.OK
}

// parsed is what Parse should answer of bytes that have these bits.
func parsed(text string) (api.Event, api.Errno) {
	e, n, err := taken(text)
	if err == api.OK && (len(text)-n >= 8 || strings.Contains(text[n:], "1")) {
		return api.Event{}, api.ErrMore
	}
	return e, err
}

// cut is text without the n bits behind the first at ones, and with other ones there.
func cut(text string, at, n int, other string) string {
	return text[:at] + other + text[min(at+n, len(text)):]
}

// turned is text with the bits at these places turned.
func turned(text string, at ...int) string {
	b := []byte(text)
	for _, i := range slices.Compact(slices.Sorted(slices.Values(at))) {
		b[i] ^= 1
	}
	return string(b)
}
