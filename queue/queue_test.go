package queue_test

import (
	"math"
	"reflect"
	"slices"
	"testing"

	"phratry/api"
	"phratry/fresh"
	"phratry/queue"
)

const (
	most    = 1 << 40
	pending = 1024
)

// feed is one of many, told apart by To; their kinds go by turns.
func feed(n int) api.Feed { return api.Feed{Kind: api.FeedKind(1 + n%6), To: n, From: -n} }

func feeds(ns ...int) (l []api.Feed) {
	for _, n := range ns {
		l = append(l, feed(n))
	}
	return l
}

// run is the numbers from one on, so many.
func run(from, many int) (l []int) {
	for i := range many {
		l = append(l, from+i)
	}
	return l
}

// early is what came ahead of its turn with these numbers: the feeds of half of them.
func early(seqs ...int) (l []api.Early) {
	for _, seq := range seqs {
		l = append(l, api.Early{Seq: seq, Feed: feed(seq / 2 % 1000)})
	}
	return l
}

// link is one of a peer, unlike those of the others.
func link(peer int) api.Link {
	return api.Link{Peer: peer, Next: 10 + peer, Queue: feeds(run(7*peer, peer+1)...), Expect: 5 * peer, Early: early(5*peer+2, 5*peer+9)}
}

// some is the links of those peers whose bits are set.
func some(bits int) (l []api.Link) {
	for peer := range 4 {
		if bits>>peer&1 == 1 {
			l = append(l, link(peer))
		}
	}
	return l
}

// with is links with one of them in the place of that of its peer, or new.
func with(l []api.Link, one api.Link) []api.Link {
	next := slices.DeleteFunc(slices.Clone(l), func(x api.Link) bool { return x.Peer == one.Peer })
	next = append(next, one)
	slices.SortFunc(next, func(a, b api.Link) int { return a.Peer - b.Peer })
	return next
}

// of is the link of a peer, a new one if there is none.
func of(l []api.Link, peer int) api.Link {
	for _, x := range l {
		if x.Peer == peer {
			return x
		}
	}
	return api.Link{Peer: peer}
}

func data(from, to, seq int, f api.Feed) api.Packet {
	return api.Packet{From: from, To: to, Seq: seq, Feed: f}
}

func ack(from, to, seq int) api.Packet {
	return api.Packet{From: from, To: to, Ack: true, Seq: seq}
}

// alike: are two things the same, an empty list and none being the same?
func alike(a, b reflect.Value) bool {
	switch a.Kind() {
	case reflect.Struct:
		for i := range a.NumField() {
			if !alike(a.Field(i), b.Field(i)) {
				return false
			}
		}
		return true
	case reflect.Slice:
		if a.Len() != b.Len() {
			return false
		}
		for i := range a.Len() {
			if !alike(a.Index(i), b.Index(i)) {
				return false
			}
		}
		return true
	}
	return a.Equal(b)
}

func same[T any](t *testing.T, what string, got, want T) {
	t.Helper()
	if !alike(reflect.ValueOf(got), reflect.ValueOf(want)) {
		t.Fatalf("%s: %+v, not %+v", what, got, want)
	}
}

// kept runs something that must not change links.
func kept(t *testing.T, l []api.Link, call func()) {
	t.Helper()
	before := fresh.List(l, fresh.Link)
	call()
	same(t, "what was handed in", l, before)
}

func push(t *testing.T, l []api.Link, peer int, f api.Feed) (next []api.Link) {
	t.Helper()
	kept(t, l, func() {
		var e api.Errno
		if next, e = queue.Push(l, peer, f); e != api.OK {
			t.Fatal(peer, e)
		}
	})
	if e := queue.Check(next); e != api.OK {
		t.Fatal("Push answers what may not be", e)
	}
	return next
}

func unpushed(t *testing.T, what string, l []api.Link, peer int, f api.Feed, want api.Errno) {
	t.Helper()
	kept(t, l, func() {
		if next, e := queue.Push(l, peer, f); e != want || len(next) != 0 {
			t.Error(what, peer, f.Kind, e, len(next))
		}
	})
}

func sends(t *testing.T, l []api.Link, from int) (p []api.Packet) {
	t.Helper()
	kept(t, l, func() {
		var e api.Errno
		if p, e = queue.Sends(l, from); e != api.OK {
			t.Fatal(from, e)
		}
	})
	return p
}

func unsent(t *testing.T, what string, l []api.Link, from int) {
	t.Helper()
	kept(t, l, func() {
		if p, e := queue.Sends(l, from); e != api.ErrArg || len(p) != 0 {
			t.Error(what, from, e, len(p))
		}
	})
}

func take(t *testing.T, l []api.Link, p api.Packet) (next []api.Link, told []api.Feed, back []api.Packet) {
	t.Helper()
	kept(t, l, func() {
		var e api.Errno
		if next, told, back, e = queue.Take(l, p); e != api.OK {
			t.Fatal(p.From, p.Seq, e)
		}
	})
	if e := queue.Check(next); e != api.OK {
		t.Fatal("Take answers what may not be", e)
	}
	return next, told, back
}

// comes takes data and looks at what is answered; told is by the feeds' numbers.
func comes(t *testing.T, l []api.Link, p api.Packet, want api.Link, told ...int) []api.Link {
	t.Helper()
	next, got, back := take(t, l, p)
	same(t, "links", next, with(l, want))
	same(t, "told", got, feeds(told...))
	same(t, "back", back, []api.Packet{ack(p.To, p.From, want.Expect)})
	return next
}

// hears takes an Ack and looks at what is answered.
func hears(t *testing.T, l []api.Link, p api.Packet, want api.Link) []api.Link {
	t.Helper()
	next, got, back := take(t, l, p)
	same(t, "links", next, with(l, want))
	if len(got)+len(back) != 0 {
		t.Fatal("an Ack tells, or sends back", got, back)
	}
	return next
}

func untaken(t *testing.T, what string, l []api.Link, p api.Packet) {
	t.Helper()
	kept(t, l, func() {
		if next, told, back, e := queue.Take(l, p); e != api.ErrArg || len(next)+len(told)+len(back) != 0 {
			t.Error(what, p.From, p.To, p.Ack, p.Seq, p.Feed.Kind, e, len(next), len(told), len(back))
		}
	})
}

// edges are numbers about all bounds of the chapter.
func edges() []int {
	return []int{math.MinInt, -most, -1 << 32, -2, -1, 0, 1, 2, 3, 4, 5, pending, 1 << 32, 1<<32 + 1, most - 1, most, most + 1, math.MaxInt}
}

// badLinks are some that may not be: each of them for one reason alone.
func badLinks() map[string][]api.Link {
	kind := func(k api.FeedKind) api.Feed { return api.Feed{Kind: k, To: 1} }
	bad := map[string][]api.Link{
		"one twice":                      {link(1), link(1)},
		"0 twice":                        {{}, {}},
		"falling":                        {link(2), link(1)},
		"falling behind rising ones":     {link(0), link(2), link(1)},
		"falling ahead of rising":        {link(1), link(0), link(2)},
		"five":                           {link(0), link(1), link(2), link(3), {Peer: 4}},
		"a Queue above Next":             {{Peer: 1, Next: 2, Queue: feeds(1, 2, 3)}},
		"a Queue above 0":                {{Peer: 1, Queue: feeds(1)}},
		"a Queue of one too many":        {{Peer: 1, Next: 5000, Queue: feeds(run(0, pending+1)...)}},
		"a Queue with none first":        {{Peer: 1, Next: 9, Queue: []api.Feed{{}, feed(1)}}},
		"a Queue with 7 last":            {{Peer: 1, Next: 9, Queue: []api.Feed{feed(1), kind(7)}}},
		"a Queue with 255":               {{Peer: 1, Next: 9, Queue: []api.Feed{feed(1), kind(255), feed(2)}}},
		"Early at Expect":                {{Peer: 1, Expect: 3, Early: early(3)}},
		"Early at Expect, 0":             {{Peer: 1, Early: early(0)}},
		"Early below Expect":             {{Peer: 1, Expect: 3, Early: early(2, 4)}},
		"Early below 0":                  {{Peer: 1, Early: []api.Early{{Seq: -1, Feed: feed(1)}}}},
		"Early of the least":             {{Peer: 1, Early: []api.Early{{Seq: math.MinInt, Feed: feed(1)}}}},
		"Early at 2^40":                  {{Peer: 1, Expect: 3, Early: early(4, most)}},
		"Early at the greatest":          {{Peer: 1, Expect: 3, Early: early(4, math.MaxInt)}},
		"Early above 2^40":               {{Peer: 1, Expect: most, Early: early(most + 1)}},
		"Early twice":                    {{Peer: 1, Expect: 3, Early: early(4, 4)}},
		"Early twice, last":              {{Peer: 1, Expect: 3, Early: early(4, 9, 9)}},
		"Early falling":                  {{Peer: 1, Expect: 3, Early: early(5, 4)}},
		"Early falling behind rising":    {{Peer: 1, Expect: 3, Early: early(4, 9, 8)}},
		"Early of one too many":          {{Peer: 1, Expect: 3, Early: early(run(4, pending+1)...)}},
		"Early of one too many, further": {{Peer: 1, Expect: 3, Early: early(run(9999, pending+1)...)}},
		"Early with none first":          {{Peer: 1, Early: []api.Early{{Seq: 1}, {Seq: 2, Feed: feed(1)}}}},
		"Early with 7 last":              {{Peer: 1, Early: []api.Early{{Seq: 1, Feed: feed(1)}, {Seq: 2, Feed: kind(7)}}}},
	}
	for _, n := range edges() {
		if n < 0 || n > 3 {
			bad["a peer"+api.Errno(n).Error()] = []api.Link{{Peer: n}}
			bad["a peer among others"+api.Errno(n).Error()] = with([]api.Link{link(1)}, api.Link{Peer: n})
		}
		if n < 0 || n > most {
			bad["a Next"+api.Errno(n).Error()] = []api.Link{{Peer: 1, Next: n}}
			bad["an Expect"+api.Errno(n).Error()] = []api.Link{{Peer: 1, Expect: n}}
		}
	}
	for what, l := range bad {
		// The fault of one that is not the first one, or not the last one, counts as well.
		if len(l) == 1 && l[0].Peer == 1 {
			bad[what+", behind another"] = []api.Link{link(0), l[0]}
			bad[what+", ahead of another"] = []api.Link{l[0], link(3)}
		}
	}
	return bad
}

func TestP171Check(t *testing.T) {
	good := map[string][]api.Link{
		"none":                  nil,
		"none, with room":       make([]api.Link, 0, 4),
		"a zero one":            {{}},
		"the most at both ends": {{Peer: 3, Next: most, Expect: most}},
		"a Queue of all":        {{Next: 3, Queue: feeds(4, 5, 6)}},
		"a Queue at the end":    {{Next: most, Queue: feeds(4, 5, 6)}},
		"a full Queue":          {{Next: pending, Queue: feeds(run(0, pending)...)}},
		"each kind":             {{Next: 90, Queue: feeds(0, 1, 2, 3, 4, 5), Early: early(1, 3, 5, 7, 9, 11)}},
		"Early side by side":    {{Expect: 4, Early: early(5, 6, 7)}},
		"Early at the end":      {{Expect: most - 2, Early: early(most - 1)}},
		"Early afar":            {{Early: early(1, 1<<32, most-1)}},
		"a full Early":          {{Early: early(run(1, pending)...)}},
		"a full Early afar":     {{Early: early(run(most-pending, pending)...)}},
		"any feed":              {{Next: 1, Queue: []api.Feed{{Kind: api.FdAsk, To: math.MinInt, From: math.MaxInt, Commit: api.Commit{Epoch: -1}, Mail: api.Mail{Kind: 200}}}}},
	}
	for bits := range 16 {
		good["some"+api.Errno(bits).Error()] = some(bits)
	}
	for what, l := range good {
		kept(t, l, func() {
			if e := queue.Check(l); e != api.OK {
				t.Error(what, e)
			}
		})
	}
	for what, l := range badLinks() {
		kept(t, l, func() {
			if e := queue.Check(l); e != api.ErrArg {
				t.Error(what, e)
			}
		})
	}
}

func TestP171Kinds(t *testing.T) {
	for kind := range 256 {
		f := api.Feed{Kind: api.FeedKind(kind)}
		want := api.ErrArg
		if kind >= 1 && kind <= 6 {
			want = api.OK
		}
		if e := queue.Check([]api.Link{{Next: 1, Queue: []api.Feed{f}}}); e != want {
			t.Error(kind, e)
		}
		if e := queue.Check([]api.Link{{Early: []api.Early{{Seq: 1, Feed: f}}}}); e != want {
			t.Error(kind, e)
		}
		if _, e := queue.Push(nil, 1, f); e != want {
			t.Error(kind, e)
		}
		if _, _, _, e := queue.Take(nil, data(0, 1, 0, f)); e != want {
			t.Error(kind, e)
		}
	}
}

func TestP172Push(t *testing.T) {
	for bits := range 16 {
		for peer := range 4 {
			l := some(bits)
			want := of(l, peer)
			want.Queue, want.Next = append(want.Queue, feed(99)), want.Next+1
			same(t, "Push", push(t, l, peer, feed(99)), with(l, want))
		}
	}
}

// TestP172Row: links are made in whatever order, and what is pushed stands in order, twice if it was pushed twice.
func TestP172Row(t *testing.T) {
	var l []api.Link
	var want [4]api.Link
	for peer := range want {
		want[peer].Peer = peer
	}
	for i := range 40 {
		peer, f := (i*7+i/9)%4, feed(i/2)
		l = push(t, l, peer, f)
		want[peer].Queue, want[peer].Next = append(want[peer].Queue, f), want[peer].Next+1
	}
	same(t, "links", l, want[:])
}

func TestP172Limit(t *testing.T) {
	full := api.Link{Peer: 1, Next: pending + 5, Queue: feeds(run(0, pending)...)}
	less := api.Link{Peer: 1, Next: pending + 5, Queue: feeds(run(0, pending-1)...)}
	end := api.Link{Peer: 1, Next: most, Queue: feeds(3)}
	for _, one := range []api.Link{full, end, {Peer: 1, Next: most}, {Peer: 1, Next: most, Queue: full.Queue}} {
		for _, l := range [][]api.Link{{one}, {link(0), one, link(2)}} {
			unpushed(t, "full", l, 1, feed(1), api.ErrLimit)
			unpushed(t, "no feed ahead of the limit", l, 1, api.Feed{}, api.ErrArg)
			unpushed(t, "no peer ahead of the limit", l, 4, feed(1), api.ErrArg)
			unpushed(t, "no links ahead of the limit", append(l, link(0)), 1, feed(1), api.ErrArg)
			push(t, l, 2, feed(1))
			push(t, l, 0, feed(1))
		}
	}
	l := push(t, []api.Link{less}, 1, feed(7))
	same(t, "the last place", l, []api.Link{{Peer: 1, Next: pending + 6, Queue: append(less.Queue, feed(7))}})
	unpushed(t, "no place", l, 1, feed(7), api.ErrLimit)
	l = push(t, []api.Link{{Peer: 1, Next: most - 1}}, 1, feed(7))
	same(t, "the last number", l, []api.Link{{Peer: 1, Next: most, Queue: feeds(7)}})
	unpushed(t, "no number", l, 1, feed(7), api.ErrLimit)
	// Room is there again behind an Ack, a number is not.
	l = hears(t, l, ack(1, 0, most), api.Link{Peer: 1, Next: most})
	unpushed(t, "no number", l, 1, feed(7), api.ErrLimit)
	l = hears(t, []api.Link{full}, ack(1, 0, 6), api.Link{Peer: 1, Next: pending + 5, Queue: full.Queue[1:]})
	push(t, l, 1, feed(7))
}

func TestP172Wrong(t *testing.T) {
	for what, l := range badLinks() {
		for peer := range 4 {
			unpushed(t, what, l, peer, feed(1), api.ErrArg)
		}
	}
	for _, l := range [][]api.Link{nil, some(15)} {
		for _, peer := range edges() {
			if peer < 0 || peer > 3 {
				unpushed(t, "no peer", l, peer, feed(1), api.ErrArg)
			}
		}
		for _, kind := range []api.FeedKind{0, 7, 8, 255} {
			f := feed(1)
			f.Kind = kind
			unpushed(t, "no feed", l, 1, f, api.ErrArg)
		}
	}
}

// anyFeeds is one of each kind, with something in each field, none of it sensible.
func anyFeeds() (l []api.Feed) {
	x := dice(17)
	for kind := range 6 {
		f := x.feed()
		f.Kind = api.FeedKind(kind + 1)
		l = append(l, f)
	}
	return l
}

// TestP172AnyFeed: what is pushed is sent and told whole, whatever is in it.
func TestP172AnyFeed(t *testing.T) {
	var l, r []api.Link
	var got []api.Feed
	for _, f := range anyFeeds() {
		l = push(t, l, 1, f)
	}
	same(t, "Push", l, []api.Link{{Peer: 1, Next: 6, Queue: anyFeeds()}})
	p := sends(t, l, 0)
	for _, i := range []int{5, 2, 0, 4, 1, 3} {
		next, told, _ := take(t, r, p[i])
		r, got = next, append(got, told...)
	}
	same(t, "told", got, anyFeeds())
}

func TestP173Sends(t *testing.T) {
	for bits := range 16 {
		for from := range 4 {
			l := some(bits)
			var want []api.Packet
			for peer := range 4 {
				for i := range of(l, peer).Queue {
					// Of the peer's link 10 + peer is the next number, and peer + 1 feeds are there.
					want = append(want, data(from, peer, 9+i, feed(7*peer+i)))
				}
			}
			same(t, "Sends", sends(t, l, from), want)
			same(t, "again", sends(t, l, from), want)
		}
	}
	same(t, "none", sends(t, []api.Link{{Next: 5}, {Peer: 2, Next: most, Expect: 4, Early: early(5)}}, 3), nil)
	same(t, "the last numbers", sends(t, []api.Link{{Next: most, Queue: feeds(1, 2)}}, 3), []api.Packet{data(3, 0, most-2, feed(1)), data(3, 0, most-1, feed(2))})
}

func TestP173Full(t *testing.T) {
	p := sends(t, []api.Link{{Next: 9000, Queue: feeds(run(0, pending)...)}, {Peer: 3, Next: pending, Queue: feeds(run(5, pending)...)}}, 1)
	if len(p) != 2*pending {
		t.Fatal(len(p))
	}
	for i := range pending {
		same(t, "to 0", p[i], data(1, 0, 9000-pending+i, feed(i)))
		same(t, "to 3", p[pending+i], data(1, 3, i, feed(5+i)))
	}
}

func TestP173Wrong(t *testing.T) {
	for what, l := range badLinks() {
		for from := range 4 {
			unsent(t, what, l, from)
		}
	}
	for _, from := range edges() {
		if from < 0 || from > 3 {
			unsent(t, "no server", nil, from)
			unsent(t, "no server", some(15), from)
		}
	}
}

// TestP174Ack: of the numbers 4 to 8 those below an Ack's are no longer there.
func TestP174Ack(t *testing.T) {
	one := api.Link{Peer: 1, Next: 9, Queue: feeds(4, 5, 6, 7, 8), Expect: 20, Early: early(21, 23)}
	for _, l := range [][]api.Link{{one}, with(some(13), one)} {
		for seq := range 10 {
			for to := range 4 {
				want := one
				want.Queue = feeds(run(max(4, seq), 9-max(4, seq))...)
				next := hears(t, l, ack(1, to, seq), want)
				for older := range seq + 1 {
					hears(t, next, ack(1, to, older), want)
				}
			}
		}
		for _, seq := range []int{10, 11, 20, 21, most - 1, most, most + 1, math.MaxInt, -1, math.MinInt} {
			untaken(t, "an Ack of what was not sent", l, ack(1, 0, seq))
		}
	}
}

func TestP174AckEdges(t *testing.T) {
	// With an Ack, too, a link is made.
	for bits := range 16 {
		for from := range 4 {
			l := some(bits)
			if bits>>from&1 == 0 {
				hears(t, l, ack(from, 2, 0), api.Link{Peer: from})
				untaken(t, "nothing was sent", l, ack(from, 2, 1))
				untaken(t, "nothing was sent", l, ack(from, 2, most))
			}
		}
	}
	end := api.Link{Peer: 1, Next: most, Queue: feeds(5, 6)}
	same(t, "all but the last", hears(t, []api.Link{end}, ack(1, 0, most-1), api.Link{Peer: 1, Next: most, Queue: feeds(6)}), []api.Link{{Peer: 1, Next: most, Queue: feeds(6)}})
	hears(t, []api.Link{end}, ack(1, 0, most), api.Link{Peer: 1, Next: most})
	hears(t, []api.Link{end}, ack(1, 0, most-2), end)
	untaken(t, "above 2^40", []api.Link{end}, ack(1, 0, most+1))
	full := api.Link{Peer: 1, Next: 5000, Queue: feeds(run(0, pending)...)}
	hears(t, []api.Link{full}, ack(1, 0, 5000-pending), full)
	hears(t, []api.Link{full}, ack(1, 0, 4999), api.Link{Peer: 1, Next: 5000, Queue: full.Queue[pending-1:]})
	hears(t, []api.Link{full}, ack(1, 0, 5000), api.Link{Peer: 1, Next: 5000})
	// The Feed of an Ack is not looked at.
	for kind := range 256 {
		p := ack(1, 0, most-1)
		p.Feed = feed(3)
		p.Feed.Kind = api.FeedKind(kind)
		hears(t, []api.Link{end}, p, api.Link{Peer: 1, Next: most, Queue: feeds(6)})
	}
}

// TestP174Data: a link that expects 10, and has 12, 13 and 16, takes each number.
func TestP174Data(t *testing.T) {
	one := api.Link{Peer: 1, Next: 9, Queue: feeds(4, 5), Expect: 10, Early: []api.Early{{Seq: 12, Feed: feed(12)}, {Seq: 13, Feed: feed(13)}, {Seq: 16, Feed: feed(16)}}}
	for _, l := range [][]api.Link{{one}, with(some(13), one)} {
		for to := range 4 {
			for seq := range 10 + pending + 4 {
				if to > 0 && seq > 20 && seq < pending {
					continue
				}
				want := one
				p := data(1, to, seq, feed(seq))
				switch {
				case seq == 10:
					want.Expect = 11
					comes(t, l, p, want, 10)
					continue
				case seq == 11 || seq == 14 || seq == 15:
					at := map[int]int{11: 0, 14: 2, 15: 2}[seq]
					want.Early = slices.Insert(slices.Clone(one.Early), at, api.Early{Seq: seq, Feed: feed(seq)})
				case seq > 16 && seq <= 10+pending:
					want.Early = append(slices.Clone(one.Early), api.Early{Seq: seq, Feed: feed(seq)})
				}
				comes(t, l, p, want)
			}
			for _, seq := range []int{10 + pending + 1, 1 << 32, 1<<32 + 10, most - 2, most - 1} {
				comes(t, l, data(1, to, seq, feed(1)), one)
			}
		}
	}
}

// TestP174Turn: each row of what came early is told as far as there is no gap.
func TestP174Turn(t *testing.T) {
	for bits := range 1 << 7 {
		one := api.Link{Peer: 2, Expect: 5, Next: 3, Queue: feeds(1)}
		for i := range 7 {
			if bits>>i&1 == 1 {
				one.Early = append(one.Early, api.Early{Seq: 6 + i, Feed: feed(6 + i)})
			}
		}
		turn := 6
		for bits>>(turn-6)&1 == 1 {
			turn++
		}
		want := api.Link{Peer: 2, Expect: turn, Next: 3, Queue: feeds(1), Early: one.Early[turn-6:]}
		comes(t, []api.Link{link(0), one}, data(2, 0, 5, feed(5)), want, run(5, turn-5)...)
	}
}

// TestP174Twice: what came first with a number stays, and so does what is told.
func TestP174Twice(t *testing.T) {
	l := comes(t, nil, data(3, 0, 2, feed(50)), api.Link{Peer: 3, Early: []api.Early{{Seq: 2, Feed: feed(50)}}})
	l = comes(t, l, data(3, 0, 2, feed(51)), l[0])
	l = comes(t, l, data(3, 0, 1, feed(52)), api.Link{Peer: 3, Early: []api.Early{{Seq: 1, Feed: feed(52)}, {Seq: 2, Feed: feed(50)}}})
	l = comes(t, l, data(3, 0, 1, feed(53)), l[0])
	l = comes(t, l, data(3, 0, 0, feed(54)), api.Link{Peer: 3, Expect: 3}, 54, 52, 50)
	for seq := range 3 {
		comes(t, l, data(3, 0, seq, feed(55)), api.Link{Peer: 3, Expect: 3})
	}
}

// TestP174Made: a link is made at its place, whatever comes of what came.
func TestP174Made(t *testing.T) {
	for bits := range 16 {
		for from := range 4 {
			if bits>>from&1 == 1 {
				continue
			}
			for to := range 4 {
				comes(t, some(bits), data(from, to, 0, feed(8)), api.Link{Peer: from, Expect: 1}, 8)
				comes(t, some(bits), data(from, to, 1, feed(8)), api.Link{Peer: from, Early: []api.Early{{Seq: 1, Feed: feed(8)}}})
				comes(t, some(bits), data(from, to, pending, feed(8)), api.Link{Peer: from, Early: []api.Early{{Seq: pending, Feed: feed(8)}}})
				comes(t, some(bits), data(from, to, pending+1, feed(8)), api.Link{Peer: from})
				comes(t, some(bits), data(from, to, most-1, feed(8)), api.Link{Peer: from})
			}
		}
	}
}

// TestP174Last: the last numbers that there are.
func TestP174Last(t *testing.T) {
	one := api.Link{Peer: 1, Expect: most - 3}
	late := []api.Early{{Seq: most - 2, Feed: feed(2)}, {Seq: most - 1, Feed: feed(3)}}
	l := comes(t, []api.Link{one}, data(1, 0, most-1, feed(3)), api.Link{Peer: 1, Expect: most - 3, Early: late[1:]})
	l = comes(t, l, data(1, 0, most-2, feed(2)), api.Link{Peer: 1, Expect: most - 3, Early: late})
	untaken(t, "no number", l, data(1, 0, most, feed(4)))
	l = comes(t, l, data(1, 0, most-3, feed(1)), api.Link{Peer: 1, Expect: most}, 1, 2, 3)
	for _, seq := range []int{0, 1, most - 2, most - 1} {
		comes(t, l, data(1, 0, seq, feed(4)), api.Link{Peer: 1, Expect: most})
	}
	untaken(t, "no number", l, data(1, 0, most, feed(4)))
}

// TestP174Full: as much comes early as there is room for, in any order, and is told in one go.
func TestP174Full(t *testing.T) {
	for _, step := range []int{pending - 1, 321} {
		var l []api.Link
		for i := range pending {
			seq := (i+1)*step%pending + 1
			next, told, back, e := queue.Take(l, data(1, 0, seq, feed(seq)))
			if e != api.OK || len(told) != 0 || len(back) != 1 || back[0].Seq != 0 {
				t.Fatal(seq, e, told, back)
			}
			l = next
		}
		want := api.Link{Peer: 1}
		for _, seq := range run(1, pending) {
			want.Early = append(want.Early, api.Early{Seq: seq, Feed: feed(seq)})
		}
		same(t, "all but the first", l, []api.Link{want})
		comes(t, l, data(1, 0, pending+1, feed(1)), want)
		l = comes(t, l, data(1, 0, 0, feed(0)), api.Link{Peer: 1, Expect: pending + 1}, run(0, pending+1)...)
		comes(t, l, data(1, 0, 2*pending+1, feed(1)), api.Link{Peer: 1, Expect: pending + 1, Early: []api.Early{{Seq: 2*pending + 1, Feed: feed(1)}}})
	}
}

// TestP175Afar: where Early is full of numbers from afar, nothing more comes ahead of its turn, and what is answered may
// be; what comes in its turn is told.
func TestP175Afar(t *testing.T) {
	one := api.Link{Peer: 1, Expect: 3, Early: early(run(9000, pending)...)}
	for _, seq := range []int{4, 5, 3 + pending, 4 + pending, 9000, 9001} {
		comes(t, []api.Link{one}, data(1, 0, seq, feed(1)), one)
	}
	l := comes(t, []api.Link{one}, data(1, 0, 3, feed(1)), api.Link{Peer: 1, Expect: 4, Early: one.Early}, 1)
	comes(t, l, data(1, 0, 4, feed(2)), api.Link{Peer: 1, Expect: 5, Early: one.Early}, 2)
	less := api.Link{Peer: 1, Expect: 3, Early: one.Early[1:]}
	comes(t, []api.Link{less}, data(1, 0, 5, feed(1)), api.Link{Peer: 1, Expect: 3, Early: append([]api.Early{{Seq: 5, Feed: feed(1)}}, less.Early...)})
	near := api.Link{Peer: 1, Expect: 3, Early: append([]api.Early{{Seq: 4, Feed: feed(7)}}, less.Early...)}
	comes(t, []api.Link{near}, data(1, 0, 3, feed(6)), api.Link{Peer: 1, Expect: 5, Early: less.Early}, 6, 7)
}

func TestP174Wrong(t *testing.T) {
	for what, l := range badLinks() {
		for from := range 4 {
			for _, seq := range []int{0, 1, 3} {
				untaken(t, what, l, data(from, 2, seq, feed(1)))
				untaken(t, what, l, ack(from, 2, seq))
			}
		}
	}
	for _, l := range [][]api.Link{nil, some(15), {{Peer: 1, Next: most, Expect: most}}} {
		for _, n := range edges() {
			if n < 0 || n > 3 {
				for _, p := range []api.Packet{data(n, 1, 0, feed(1)), data(1, n, 0, feed(1)), ack(n, 1, 0), ack(1, n, 0), data(n, n, 0, feed(1)), ack(n, n, 0)} {
					untaken(t, "no server", l, p)
				}
			}
			if n < 0 || n >= most {
				untaken(t, "no number", l, data(1, 0, n, feed(1)))
			}
			if n < 0 || n > most {
				untaken(t, "no number", l, ack(1, 0, n))
			}
		}
		for _, kind := range []api.FeedKind{0, 7, 8, 255} {
			p := data(1, 0, 0, feed(1))
			p.Feed.Kind = kind
			untaken(t, "no feed", l, p)
			p.Seq = most - 1
			untaken(t, "no feed", l, p)
		}
	}
}

func TestExamples(t *testing.T) {
	a, b, c := 1, 2, 3
	l := push(t, push(t, push(t, nil, 1, feed(a)), 1, feed(b)), 1, feed(c))
	p := sends(t, l, 0)
	same(t, "sent", p, []api.Packet{data(0, 1, 0, feed(a)), data(0, 1, 1, feed(b)), data(0, 1, 2, feed(c))})
	for _, row := range []struct {
		seqs   []int
		told   [][]int
		expect []int
	}{
		{[]int{2, 0, 0, 1}, [][]int{nil, {a}, nil, {b, c}}, []int{0, 1, 1, 3}},
		{[]int{1, 1, 0}, [][]int{nil, nil, {a, b}}, []int{0, 0, 2}},
	} {
		var r []api.Link
		for i, seq := range row.seqs {
			next, told, back := take(t, r, p[seq])
			same(t, "told", told, feeds(row.told[i]...))
			same(t, "back", back, []api.Packet{ack(1, 0, row.expect[i])})
			r = next
		}
	}
	l = hears(t, l, ack(1, 0, 2), api.Link{Peer: 1, Next: 3, Queue: feeds(c)})
	l = hears(t, l, ack(1, 0, 1), api.Link{Peer: 1, Next: 3, Queue: feeds(c)})
	untaken(t, "4", l, ack(1, 0, 4))
}
