package event

import (
	"eyrie/api"
	"eyrie/bits"
)

// reader takes things from a source. Behind its first error it takes no more, so that this one is what is told.
type reader struct {
	source bits.Source
	err    api.Errno
}

// event takes an event, of which it looks no further than is needed to take it.
func (r *reader) event() api.Event {
	var e api.Event
	e.ID.Source = int(r.bits(sourceBits))
	e.ID.Seq = r.count()
	e.Time = r.count()
	e.Type = r.text()
	e.Attrs = r.attrs()
	return e
}

// attrs takes attributes, and ahead of them how many they are.
func (r *reader) attrs() []api.Attr {
	many := r.bits(manyBits)
	if many > api.MaxAttrs {
		r.err = api.ErrEvent
		return nil
	}
	var l []api.Attr
	for range many {
		a := r.attr()
		if r.err != api.OK {
			return nil
		}
		l = append(l, a)
	}
	return l
}

func (r *reader) attr() api.Attr {
	var a api.Attr
	a.Name = r.text()
	a.Value.Kind = int(r.bits(kindBits))
	if r.err != api.OK {
		return api.Attr{}
	}
	switch a.Value.Kind {
	case api.VInt:
		a.Value.N = r.num()
	case api.VStr:
		a.Value.S = r.text()
	default:
		r.err = api.ErrEvent
	}
	return a
}

// count takes a natural number. One that has no place in an int64 becomes one below 0, which Check refuses as it would refuse the number itself.
func (r *reader) count() int64 { return int64(r.nat()) }

func (r *reader) bits(n int) uint64 {
	if r.err != api.OK {
		return 0
	}
	u, err := r.source.Bits(n)
	r.err = err
	return u
}

func (r *reader) nat() uint64 {
	if r.err != api.OK {
		return 0
	}
	u, err := r.source.Nat()
	r.err = err
	return u
}

func (r *reader) num() int64 {
	if r.err != api.OK {
		return 0
	}
	n, err := r.source.Num()
	r.err = err
	return n
}

func (r *reader) text() string {
	if r.err != api.OK {
		return ""
	}
	t, err := r.source.Text()
	r.err = err
	return t
}
