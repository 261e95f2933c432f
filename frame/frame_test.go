package frame_test

import (
	"bytes"
	"math"
	"strings"
	"testing"

	"eyrie/api"
	"eyrie/frame"
)

// P2.1

func TestCheckTakes(t *testing.T) {
	for _, d := range ordinary() {
		if err := frame.Check(d); err != api.OK {
			t.Errorf("%s: error %d", shown(d), err)
		}
	}
	for from := range api.MaxBrokers {
		for to := range api.MaxBrokers {
			want := api.OK
			if from == to {
				want = api.ErrFrame
			}
			for _, d := range []api.Datagram{data(from, to, 1, 2, "x"), ack(from, to, 3)} {
				if err := frame.Check(d); err != want {
					t.Errorf("%s: error %d, not %d", shown(d), err, want)
				}
			}
		}
	}
}

// refused are datagrams that may not be, most of them for one reason alone.
func refused() []api.Datagram {
	l := []api.Datagram{{}, data(0, 0, 0, 0, ""), ack(15, 15, 0)}
	for _, n := range []int{-1, api.MaxBrokers, api.MaxBrokers + 1, 256, math.MinInt, math.MaxInt} {
		l = append(l, data(n, 1, 0, 0, "x"), data(1, n, 0, 0, "x"), data(n, n, 0, 0, "x"), ack(n, 1, 0), ack(1, n, 0))
	}
	for _, n := range []int{0, 3, 4, 5, -1, -2, 1 + 1<<8, math.MinInt, math.MaxInt} {
		l = append(l, api.Datagram{From: 0, To: 1, Kind: n}, api.Datagram{From: 0, To: 1, Kind: n, Seq: 1, Ack: 1, Body: []byte("x")})
	}
	for _, n := range []int64{-1, -2, api.MaxTime + 1, api.MaxTime + 2, math.MinInt64, math.MaxInt64} {
		l = append(l, data(0, 1, n, 0, "x"), data(0, 1, 0, n, "x"), data(0, 1, n, n, ""), ack(0, 1, n))
		l = append(l, api.Datagram{From: 0, To: 1, Kind: api.DgAck, Seq: n})
	}
	for _, n := range []int64{1, 2, api.MaxTime} {
		l = append(l, api.Datagram{From: 0, To: 1, Kind: api.DgAck, Seq: n, Ack: n})
	}
	for _, n := range []int{1, 2, api.MaxBody, api.MaxBody + 1} {
		l = append(l, api.Datagram{From: 0, To: 1, Kind: api.DgAck, Body: make([]byte, n)})
	}
	for _, n := range []int{api.MaxBody + 1, api.MaxBody + 2, 2 * api.MaxBody, 1 << 20} {
		l = append(l, data(0, 1, 0, 0, strings.Repeat("z", n)))
	}
	return l
}

func TestCheckRefuses(t *testing.T) {
	for _, d := range refused() {
		if err := frame.Check(d); err != api.ErrFrame {
			t.Errorf("%s: error %d", shown(d), err)
		}
	}
	if err := frame.Check(data(0, 1, 0, 0, strings.Repeat("z", api.MaxBody))); err != api.OK {
		t.Errorf("a body of MaxBody bytes: error %d", err)
	}
}

func TestSame(t *testing.T) {
	others := func(d api.Datagram) []api.Datagram {
		l := []api.Datagram{d, d, d, d, d, d, d}
		l[0].From++
		l[1].To--
		l[2].Kind++
		l[3].Seq++
		l[4].Ack--
		l[5].Body = append(bytes.Clone(d.Body), 0)
		l[6].From, l[6].To = d.To, d.From
		for i := range min(len(d.Body), 50) {
			o := frame.Clone(d)
			o.Body[i]++
			l = append(l, o)
			o.Body = o.Body[:i]
			l = append(l, o)
		}
		return l
	}
	for _, d := range append(ordinary(), data(-3, 99, -1, math.MinInt64, "none"), ack(1, math.MaxInt, math.MaxInt64)) {
		again := d
		again.Body = append([]byte{}, d.Body...)
		if !frame.Same(d, d) || !frame.Same(d, again) || !frame.Same(again, d) {
			t.Errorf("%s: not the same", shown(d))
		}
		for _, o := range others(d) {
			if frame.Same(d, o) || frame.Same(o, d) {
				t.Errorf("%s; %s: the same", shown(d), shown(o))
			}
		}
	}
	a, b := data(0, 1, 2, 3, ""), data(0, 1, 2, 3, "")
	a.Body, b.Body = nil, make([]byte, 0, 4)
	if !frame.Same(a, b) || !frame.Same(b, a) || !frame.Same(a, a) {
		t.Error("an empty body is not a nil one")
	}
	if !frame.Same(api.Datagram{}, api.Datagram{}) || frame.Same(api.Datagram{}, a) {
		t.Error("the zero datagram")
	}
}

func TestClone(t *testing.T) {
	for _, d := range append(ordinary(), refused()...) {
		if o := frame.Clone(d); !alike(d, o) || !frame.Same(d, o) {
			t.Errorf("%s: the clone is %s", shown(d), shown(o))
		}
	}
}

// R3: a clone shares nothing, not even the room behind its body.
func TestCloneMemory(t *testing.T) {
	room := []byte("body and more")
	d := data(0, 1, 2, 3, "")
	d.Body = room[:4]
	o := frame.Clone(d)
	o.Body[0] = 'B'
	_ = append(o.Body, "XXXX"...)
	if string(room) != "body and more" {
		t.Errorf("the clone is shared: %s", room)
	}
	room[1] = 'O'
	if string(o.Body) != "Body" {
		t.Errorf("the clone is shared: %s", o.Body)
	}
	d.Body = room[:0]
	o = frame.Clone(d)
	_ = append(o.Body, "XXXX"...)
	if string(room) != "bOdy and more" {
		t.Errorf("an empty body's room is shared: %s", room)
	}
}
