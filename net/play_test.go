package net_test

import (
	"reflect"
	"testing"

	"phratry/api"
	"phratry/net"
)

// dice tells the same row of numbers at every run.
type dice uint64

func (x *dice) roll(n int) int {
	*x = *x*6364136223846793005 + 1442695040888963407
	return int(uint64(*x) >> 33 % uint64(n))
}

func (x *dice) one(l ...int) int { return l[x.roll(len(l))] }

// fill gives anything to all fields of something.
func (x *dice) fill(v reflect.Value) {
	switch v.Kind() {
	case reflect.Struct:
		for i := range v.NumField() {
			x.fill(v.Field(i))
		}
	case reflect.Slice:
		v.Set(reflect.MakeSlice(v.Type(), x.roll(3), 4))
		for i := range v.Len() {
			x.fill(v.Index(i))
		}
	case reflect.Bool:
		v.SetBool(x.roll(2) == 0)
	case reflect.Uint8:
		v.SetUint(uint64(x.roll(7)))
	default:
		v.SetInt(int64(x.roll(100) - 20))
	}
}

// packet is any that may be, with lists of any length.
func (x *dice) packet() (p api.Packet) {
	x.fill(reflect.ValueOf(&p).Elem())
	p.From, p.To, p.Seq = x.roll(4), x.roll(4), x.one(0, 1, 2, 77, most-1)
	p.Feed.Kind = api.FeedKind(1 + x.roll(6))
	return p
}

// odd is a packet of which one number is anything, now and then.
func (x *dice) odd() api.Packet {
	p := x.packet()
	if x.roll(4) > 0 {
		return p
	}
	n := x.one(edges()...)
	switch x.roll(4) {
	case 0:
		p.From = n
	case 1:
		p.To = n
	case 2:
		p.Seq = n
	default:
		p.Feed.Kind = api.FeedKind(n)
	}
	return p
}

// born is a packet that was sent or copied, and whether it is no longer on its way.
type born struct {
	p    api.Packet
	gone bool
}

// plain is the chapter's words: all packets that ever were, in the order in which they were sent or copied.
type plain []born

// left is which of them are on their way.
func (w plain) left() (l []int) {
	for i, b := range w {
		if !b.gone {
			l = append(l, i)
		}
	}
	return l
}

func (w plain) all() (l []api.Packet) {
	for _, i := range w.left() {
		l = append(l, w[i].p)
	}
	return l
}

// packetWords: may it be, as chapter 17 says it?
func packetWords(p api.Packet) bool {
	if p.From < 0 || p.From > 3 || p.To < 0 || p.To > 3 || p.Seq < 0 {
		return false
	}
	return p.Ack && p.Seq <= most || !p.Ack && p.Seq <= most-1 && p.Feed.Kind >= api.FdCommit && p.Feed.Kind <= api.FdNote
}

func (w *plain) send(p api.Packet) api.Errno {
	if !packetWords(p) {
		return api.ErrArg
	}
	if len(w.left()) == packets {
		return api.ErrLimit
	}
	*w = append(*w, born{p: p})
	return api.OK
}

func (w *plain) take(at int) (api.Packet, api.Errno) {
	l := w.left()
	if at < 0 || at >= len(l) {
		return api.Packet{}, api.ErrGone
	}
	(*w)[l[at]].gone = true
	return (*w)[l[at]].p, api.OK
}

func (w *plain) copy(at int) api.Errno {
	l := w.left()
	if at < 0 || at >= len(l) {
		return api.ErrGone
	}
	return w.send((*w)[l[at]].p)
}

// agree is one call at a net, held against the plain one.
func (x *dice) agree(t *testing.T, n *net.Net, w *plain, more int) {
	t.Helper()
	at := x.roll(n.Len()+2) - 1
	if x.roll(20) == 0 {
		at = x.one(edges()...)
	}
	switch kind := x.roll(more + 3); kind {
	case 0:
		p, e := n.Deliver(at)
		want, no := w.take(at)
		is(t, "Deliver", e, no)
		same(t, "Deliver", p, want)
	case 1:
		_, want := w.take(at)
		is(t, "Drop", n.Drop(at), want)
	case 2:
		is(t, "Copy", n.Copy(at), w.copy(at))
	default:
		p := x.odd()
		is(t, "Send", n.Send(p), w.send(p))
	}
}

// TestP184Plays holds any row of calls against the chapter's words.
func TestP184Plays(t *testing.T) {
	x := dice(184)
	for round := range 60 {
		n := net.New()
		var w plain
		for range 100 {
			x.agree(t, n, &w, 1+round%3)
			has(t, n, w.all())
		}
		for n.Len() > 0 {
			p, e := n.Deliver(x.roll(n.Len()))
			is(t, "Deliver", e, api.OK)
			if !packetWords(p) {
				t.Fatalf("delivered what may not be: %+v", p)
			}
		}
	}
}

// TestP184Full: rows of calls about the place where there is no more room.
func TestP184Full(t *testing.T) {
	x := dice(1840)
	n := net.New()
	var w plain
	for range packets - 3 {
		p := x.packet()
		is(t, "Send", n.Send(p), w.send(p))
	}
	atLimit := 0
	for i := range 300 {
		x.agree(t, n, &w, 2)
		if n.Len() != len(w.left()) {
			t.Fatal(n.Len())
		}
		if n.Len() == packets {
			atLimit++
		}
		if i%60 == 0 {
			has(t, n, w.all())
		}
	}
	has(t, n, w.all())
	if atLimit < 50 {
		t.Error("seldom full", atLimit)
	}
}

// TestP184Each: with numbers in the place of what is sent, each way through four calls leaves what was neither delivered
// nor dropped.
func TestP184Each(t *testing.T) {
	const calls = 10 // a Send, and three calls at three places
	for row := range calls * calls * calls * calls {
		n := with(t, somes(100)...)
		w := plain{{p: some(100)}}
		for sent, left := 0, row; sent < 4; sent, left = sent+1, left/calls {
			kind, at := left%calls/3, left%calls%3
			switch kind {
			case 0:
				p, e := n.Deliver(at)
				want, no := w.take(at)
				is(t, "Deliver", e, no)
				same(t, "Deliver", p, want)
			case 1:
				_, want := w.take(at)
				is(t, "Drop", n.Drop(at), want)
			case 2:
				is(t, "Copy", n.Copy(at), w.copy(at))
			default:
				is(t, "Send", n.Send(some(sent)), w.send(some(sent)))
			}
		}
		has(t, n, w.all())
	}
}
