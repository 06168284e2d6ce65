package net_test

import (
	"math"
	"reflect"
	"slices"
	"testing"

	"phratry/api"
	"phratry/net"
	"phratry/queue"
)

const (
	most    = 1 << 40
	packets = 4096
)

// feed is one of many, told apart by To; their kinds go by turns.
func feed(n int) api.Feed { return api.Feed{Kind: api.FeedKind(1 + n%6), To: n, From: -n} }

func data(from, to, seq int, f api.Feed) api.Packet {
	return api.Packet{From: from, To: to, Seq: seq, Feed: f}
}

func ack(from, to, seq int) api.Packet {
	return api.Packet{From: from, To: to, Ack: true, Seq: seq}
}

// some is one of many packets, each unlike the others; every third one is an Ack.
func some(n int) api.Packet {
	if n%3 == 2 {
		return ack(n%4, (n+1)%4, n)
	}
	return data(n%4, (n+2)%4, n, feed(n))
}

func somes(ns ...int) (l []api.Packet) {
	for _, n := range ns {
		l = append(l, some(n))
	}
	return l
}

// run is the numbers from one on, so many.
func run(from, many int) (l []int) {
	for i := range many {
		l = append(l, from+i)
	}
	return l
}

// alike: are two things the same, an empty list and none being the same?
func alike(a, b reflect.Value) bool {
	switch a.Kind() {
	case reflect.Struct:
		for i := range a.NumField() {
			if !alike(a.Field(i), b.Field(i)) {
				return false
			}
		}
		return true
	case reflect.Slice:
		if a.Len() != b.Len() {
			return false
		}
		for i := range a.Len() {
			if !alike(a.Index(i), b.Index(i)) {
				return false
			}
		}
		return true
	}
	return a.Equal(b)
}

func same[T any](t *testing.T, what string, got, want T) {
	t.Helper()
	if !alike(reflect.ValueOf(got), reflect.ValueOf(want)) {
		t.Fatalf("%s: %+v, not %+v", what, got, want)
	}
}

func is(t *testing.T, what string, got, want api.Errno) {
	t.Helper()
	if got != want {
		t.Fatalf("%s: %v, not %v", what, got, want)
	}
}

// has: are just these on their way?
func has(t *testing.T, n *net.Net, want []api.Packet) {
	t.Helper()
	if n.Len() != len(want) {
		t.Fatalf("Len: %d, not %d", n.Len(), len(want))
	}
	same(t, "All", n.All(), want)
}

// with is a net of these.
func with(t *testing.T, l ...api.Packet) *net.Net {
	t.Helper()
	n := net.New()
	for _, p := range l {
		is(t, "Send", n.Send(p), api.OK)
	}
	return n
}

func delivers(t *testing.T, n *net.Net, at int, want api.Packet) {
	t.Helper()
	p, e := n.Deliver(at)
	is(t, "Deliver", e, api.OK)
	same(t, "Deliver", p, want)
}

// nothing: is nothing told, with an error?
func nothing(t *testing.T, n *net.Net, at int, want api.Errno) {
	t.Helper()
	p, e := n.Deliver(at)
	is(t, "Deliver", e, want)
	if !reflect.ValueOf(p).IsZero() {
		t.Fatalf("Deliver: %+v with %v", p, e)
	}
}

// edges are numbers about all bounds of the chapters.
func edges() []int {
	return []int{math.MinInt, -most, -1 << 32, -packets, -2, -1, 0, 1, 2, 3, 4, 5, packets - 1, packets, packets + 1, 1 << 32, 1<<32 + 1, most - 1, most, most + 1, math.MaxInt}
}

// badPackets are some that may not be: each of them for one reason alone.
func badPackets() (l []api.Packet) {
	for _, n := range edges() {
		if n < 0 || n > 3 {
			l = append(l, data(n, 1, 0, feed(1)), data(1, n, 0, feed(1)), ack(n, 1, 0), ack(1, n, 0))
		}
		if n < 0 || n >= most {
			l = append(l, data(0, 1, n, feed(1)))
		}
		if n < 0 || n > most {
			l = append(l, ack(0, 1, n))
		}
	}
	for kind := range 256 {
		if kind == 0 || kind > 6 {
			l = append(l, data(0, 1, 0, api.Feed{Kind: api.FeedKind(kind)}))
		}
	}
	return append(l, api.Packet{})
}

func TestP181New(t *testing.T) {
	n := net.New()
	has(t, n, nil)
	for _, at := range edges() {
		nothing(t, n, at, api.ErrGone)
		is(t, "Drop", n.Drop(at), api.ErrGone)
		is(t, "Copy", n.Copy(at), api.ErrGone)
	}
	has(t, n, nil)
	is(t, "Send", n.Send(some(1)), api.OK)
	has(t, n, somes(1))
	has(t, net.New(), nil)
}

func TestP181NotThere(t *testing.T) {
	for _, n := range []*net.Net{nil, {}, new(net.Net)} {
		for range 2 {
			for _, p := range append(badPackets(), some(0), some(1), some(2)) {
				is(t, "Send", n.Send(p), api.ErrNil)
			}
			for _, at := range edges() {
				nothing(t, n, at, api.ErrNil)
				is(t, "Drop", n.Drop(at), api.ErrNil)
				is(t, "Copy", n.Copy(at), api.ErrNil)
			}
			has(t, n, nil)
		}
	}
}

func TestP182Send(t *testing.T) {
	n := net.New()
	var want []api.Packet
	for i := range 40 {
		// Each stands there twice, for what is the same is not one.
		p := some(i / 2)
		is(t, "Send", n.Send(p), api.OK)
		want = append(want, p)
		has(t, n, want)
	}
}

// TestP182Edges: all that may be, up to its last numbers.
func TestP182Edges(t *testing.T) {
	for from := range 4 {
		for to := range 4 {
			var l []api.Packet
			for _, seq := range []int{0, 1, packets, 1 << 32, most - 1} {
				for kind := range 6 {
					l = append(l, data(from, to, seq, feed(kind)))
				}
				l = append(l, ack(from, to, seq))
			}
			l = append(l, ack(from, to, most))
			has(t, with(t, l...), l)
		}
	}
}

// TestP182AckFeed: the Feed of an Ack is not looked at, and goes with it.
func TestP182AckFeed(t *testing.T) {
	for kind := range 256 {
		p := ack(1, 0, most)
		p.Feed = feed(3)
		p.Feed.Kind = api.FeedKind(kind)
		n := with(t, p)
		has(t, n, []api.Packet{p})
		delivers(t, n, 0, p)
	}
}

func TestP182Wrong(t *testing.T) {
	for _, l := range [][]api.Packet{nil, somes(1, 2, 3)} {
		n := with(t, l...)
		for _, p := range badPackets() {
			if e := n.Send(p); e != api.ErrArg {
				t.Error(p.From, p.To, p.Ack, p.Seq, p.Feed.Kind, e)
			}
		}
		has(t, n, l)
	}
}

// TestP182AsTaken: what may be sent is what queue takes.
func TestP182AsTaken(t *testing.T) {
	links := []api.Link{{Peer: 0, Next: most}, {Peer: 1, Next: most}, {Peer: 2, Next: most}, {Peer: 3, Next: most}}
	for _, from := range edges() {
		for _, to := range edges() {
			for _, seq := range edges() {
				for _, p := range []api.Packet{ack(from, to, seq), data(from, to, seq, feed(5)), data(from, to, seq, api.Feed{Kind: 7}), data(from, to, seq, api.Feed{})} {
					_, _, _, want := queue.Take(links, p)
					if e := net.New().Send(p); e != want {
						t.Error(from, to, seq, p.Ack, p.Feed.Kind, e, want)
					}
				}
			}
		}
	}
}

// full is a net without room, of some(0) and so on.
func full(t *testing.T) *net.Net {
	t.Helper()
	return with(t, somes(run(0, packets)...)...)
}

func TestP182Limit(t *testing.T) {
	n := full(t)
	has(t, n, somes(run(0, packets)...))
	for range 2 {
		is(t, "Send", n.Send(some(1)), api.ErrLimit)
	}
	for _, p := range badPackets() {
		is(t, "what may not be, ahead of the limit", n.Send(p), api.ErrArg)
	}
	has(t, n, somes(run(0, packets)...))
	delivers(t, n, 7, some(7))
	is(t, "Send", n.Send(some(7)), api.OK)
	is(t, "Send", n.Send(some(1)), api.ErrLimit)
	is(t, "Drop", n.Drop(packets-1), api.OK)
	is(t, "Send", n.Send(some(9)), api.OK)
	is(t, "Send", n.Send(some(1)), api.ErrLimit)
	has(t, n, slices.Concat(somes(run(0, 7)...), somes(run(8, packets-8)...), somes(9)))
}

// TestP183Places: each call at each place of nets of some lengths.
func TestP183Places(t *testing.T) {
	for many := range 7 {
		l := somes(run(10, many)...)
		for at := range many {
			rest := slices.Delete(slices.Clone(l), at, at+1)
			n := with(t, l...)
			delivers(t, n, at, l[at])
			has(t, n, rest)
			n = with(t, l...)
			is(t, "Drop", n.Drop(at), api.OK)
			has(t, n, rest)
			n = with(t, l...)
			is(t, "Copy", n.Copy(at), api.OK)
			has(t, n, append(slices.Clone(l), l[at]))
		}
	}
}

func TestP183Gone(t *testing.T) {
	for many := range 7 {
		l := somes(run(10, many)...)
		n := with(t, l...)
		for _, at := range append(edges(), many, many+1) {
			if at >= 0 && at < many {
				continue
			}
			nothing(t, n, at, api.ErrGone)
			is(t, "Drop", n.Drop(at), api.ErrGone)
			is(t, "Copy", n.Copy(at), api.ErrGone)
		}
		has(t, n, l)
	}
}

// TestP183Emptied: a place is there as long as there is something at it, and once it is empty a net goes on like a new one.
func TestP183Emptied(t *testing.T) {
	n := net.New()
	for round := range 3 {
		for i := range 5 {
			is(t, "Send", n.Send(some(round+i)), api.OK)
		}
		delivers(t, n, 4, some(round+4))
		nothing(t, n, 4, api.ErrGone)
		is(t, "Drop", n.Drop(0), api.OK)
		is(t, "Drop", n.Drop(3), api.ErrGone)
		is(t, "Copy", n.Copy(3), api.ErrGone)
		for i := range 3 {
			delivers(t, n, 0, some(round+1+i))
		}
		nothing(t, n, 0, api.ErrGone)
		is(t, "Drop", n.Drop(0), api.ErrGone)
		is(t, "Copy", n.Copy(0), api.ErrGone)
		has(t, n, nil)
	}
}

func TestP183CopyLimit(t *testing.T) {
	n := full(t)
	for _, at := range edges() {
		want := api.ErrGone
		if at >= 0 && at < packets {
			want = api.ErrLimit
		}
		is(t, "Copy", n.Copy(at), want)
	}
	has(t, n, somes(run(0, packets)...))
	is(t, "Drop", n.Drop(0), api.OK)
	is(t, "Copy", n.Copy(packets-1), api.ErrGone)
	is(t, "Copy", n.Copy(packets-2), api.OK)
	is(t, "Copy", n.Copy(packets-1), api.ErrLimit)
	has(t, n, append(somes(run(1, packets-1)...), some(packets-1)))
}

// TestP183Copies: a copy of a copy is like the first one, and each is taken away for itself.
func TestP183Copies(t *testing.T) {
	n := with(t, somes(1, 2)...)
	for range 3 {
		is(t, "Copy", n.Copy(0), api.OK)
	}
	is(t, "Copy", n.Copy(4), api.OK)
	has(t, n, somes(1, 2, 1, 1, 1, 1))
	is(t, "Drop", n.Drop(0), api.OK)
	has(t, n, somes(2, 1, 1, 1, 1))
	delivers(t, n, 2, some(1))
	has(t, n, somes(2, 1, 1, 1))
	is(t, "Drop", n.Drop(3), api.OK)
	delivers(t, n, 1, some(1))
	delivers(t, n, 1, some(1))
	has(t, n, somes(2))
}

// TestP183OneFill: one packet is copied as often as there is room.
func TestP183OneFill(t *testing.T) {
	n := with(t, some(5))
	for i := 1; i < packets; i++ {
		is(t, "Copy", n.Copy(i/2), api.OK)
	}
	is(t, "Copy", n.Copy(0), api.ErrLimit)
	is(t, "Send", n.Send(some(5)), api.ErrLimit)
	for left := packets; left > 0; left-- {
		if n.Len() != left {
			t.Fatal(n.Len(), left)
		}
		delivers(t, n, left/3, some(5))
	}
	has(t, n, nil)
}

func TestExamples(t *testing.T) {
	p, q := some(1), some(2)
	n := net.New()
	is(t, "Send", n.Send(p), api.OK)
	is(t, "Send", n.Send(q), api.OK)
	is(t, "Copy", n.Copy(0), api.OK)
	if n.Len() != 3 {
		t.Fatal(n.Len())
	}
	delivers(t, n, 1, q)
	delivers(t, n, 1, p)
	nothing(t, n, 1, api.ErrGone)
	is(t, "Drop", n.Drop(0), api.OK)
	is(t, "Drop", n.Drop(0), api.ErrGone)
	is(t, "Copy", n.Copy(-1), api.ErrGone)
}

// TestTakenOnce: a packet that is copied twice and delivered three times is taken once. (The whole's example 6)
func TestTakenOnce(t *testing.T) {
	l, e := queue.Push(nil, 1, feed(7))
	is(t, "Push", e, api.OK)
	sent, e := queue.Sends(l, 0)
	is(t, "Sends", e, api.OK)
	n := with(t, sent...)
	is(t, "Copy", n.Copy(0), api.OK)
	is(t, "Copy", n.Copy(1), api.OK)
	var there []api.Link
	var told []api.Feed
	for range 3 {
		p, e := n.Deliver(n.Len() - 1)
		is(t, "Deliver", e, api.OK)
		next, got, _, e := queue.Take(there, p)
		is(t, "Take", e, api.OK)
		there, told = next, append(told, got...)
	}
	same(t, "told", told, []api.Feed{feed(7)})
	has(t, n, nil)
}
