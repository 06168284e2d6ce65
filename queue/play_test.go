package queue_test

import (
	"maps"
	"math"
	"reflect"
	"slices"
	"testing"

	"phratry/api"
	"phratry/fresh"
	"phratry/queue"
)

// dice tells the same row of numbers at every run.
type dice uint64

func (x *dice) roll(n int) int {
	*x = *x*6364136223846793005 + 1442695040888963407
	return int(uint64(*x) >> 33 % uint64(n))
}

func (x *dice) one(l ...int) int { return l[x.roll(len(l))] }

// fill gives anything to all fields of something.
func (x *dice) fill(v reflect.Value) {
	switch v.Kind() {
	case reflect.Struct:
		for i := range v.NumField() {
			x.fill(v.Field(i))
		}
	case reflect.Slice:
		v.Set(reflect.MakeSlice(v.Type(), x.roll(3), 4))
		for i := range v.Len() {
			x.fill(v.Index(i))
		}
	case reflect.Bool:
		v.SetBool(x.roll(2) == 0)
	case reflect.Uint8:
		v.SetUint(uint64(x.roll(7)))
	default:
		v.SetInt(int64(x.roll(100) - 20))
	}
}

// feed is any that may be, with lists of any length, which need not fit together.
func (x *dice) feed() (f api.Feed) {
	x.fill(reflect.ValueOf(&f).Elem())
	f.Kind = api.FeedKind(1 + x.roll(6))
	return f
}

// links are any that may be.
func (x *dice) links() (l []api.Link) {
	for peer := x.roll(2); peer < 4; peer += 1 + x.roll(2) {
		next := api.Link{Peer: peer, Next: x.one(0, 1, 2, 7, most-1, most), Expect: x.one(0, 1, 5, most-3, most-1, most)}
		for range min(next.Next, x.roll(4)) {
			next.Queue = append(next.Queue, x.feed())
		}
		for seq := next.Expect; len(next.Early) < x.roll(5); {
			seq += x.one(1, 1, 2, 3, pending, pending+1)
			if seq >= most {
				break
			}
			next.Early = append(next.Early, api.Early{Seq: seq, Feed: x.feed()})
		}
		l = append(l, next)
	}
	return l
}

// end is the chapter's words about one link: by their numbers what is to be told, and what has come.
type end struct {
	made         bool
	next, expect int
	out, in      map[int]api.Feed
}

// plain is all that a server has of the others.
type plain [4]end

func plainOf(l []api.Link) *plain {
	p := &plain{}
	for peer := range p {
		p[peer].out, p[peer].in = map[int]api.Feed{}, map[int]api.Feed{}
	}
	for _, x := range l {
		e := &p[x.Peer]
		e.made, e.next, e.expect = true, x.Next, x.Expect
		for i, f := range x.Queue {
			e.out[x.Next-len(x.Queue)+i] = f
		}
		for _, y := range x.Early {
			e.in[y.Seq] = y.Feed
		}
	}
	return p
}

func (p *plain) links() (l []api.Link) {
	for peer, e := range p {
		if !e.made {
			continue
		}
		x := api.Link{Peer: peer, Next: e.next, Expect: e.expect}
		for _, n := range slices.Sorted(maps.Keys(e.out)) {
			x.Queue = append(x.Queue, e.out[n])
		}
		for _, n := range slices.Sorted(maps.Keys(e.in)) {
			x.Early = append(x.Early, api.Early{Seq: n, Feed: e.in[n]})
		}
		l = append(l, x)
	}
	return l
}

func (p *plain) push(peer int, f api.Feed) api.Errno {
	if peer < 0 || peer > 3 || f.Kind < 1 || f.Kind > 6 {
		return api.ErrArg
	}
	e := &p[peer]
	if len(e.out) == pending || e.next == most {
		return api.ErrLimit
	}
	e.made, e.out[e.next], e.next = true, f, e.next+1
	return api.OK
}

func (p *plain) sends(from int) (l []api.Packet) {
	for peer, e := range p {
		for _, n := range slices.Sorted(maps.Keys(e.out)) {
			l = append(l, data(from, peer, n, e.out[n]))
		}
	}
	return l
}

func (p *plain) take(x api.Packet) (told []api.Feed, back []api.Packet, no api.Errno) {
	if !packetWords(x) || x.Ack && x.Seq > p[x.From].next {
		return nil, nil, api.ErrArg
	}
	e := &p[x.From]
	e.made = true
	if x.Ack {
		maps.DeleteFunc(e.out, func(n int, _ api.Feed) bool { return n < x.Seq })
		return nil, nil, api.OK
	}
	_, came := e.in[x.Seq]
	if !came && x.Seq >= e.expect && x.Seq <= e.expect+pending {
		e.in[x.Seq] = x.Feed
	}
	for {
		f, turn := e.in[e.expect]
		if !turn {
			break
		}
		told = append(told, f)
		delete(e.in, e.expect)
		e.expect++
	}
	return told, []api.Packet{ack(x.To, x.From, e.expect)}, api.OK
}

// linkWords, packetWords: may they be, as the chapter says it?
func linkWords(l []api.Link) bool {
	kinds := []api.FeedKind{api.FdCommit, api.FdMail, api.FdDevice, api.FdAsk, api.FdFace, api.FdNote}
	ok := true
	for i, x := range l {
		ok = ok && x.Peer >= 0 && x.Peer <= 3 && len(x.Queue) <= pending && len(x.Queue) <= x.Next && x.Next >= 0 && x.Next <= most
		ok = ok && x.Expect >= 0 && x.Expect <= most && len(x.Early) <= pending
		for _, y := range l[:i] {
			ok = ok && y.Peer < x.Peer
		}
		for _, f := range x.Queue {
			ok = ok && slices.Contains(kinds, f.Kind)
		}
		for j, y := range x.Early {
			ok = ok && y.Seq > x.Expect && y.Seq < most && slices.Contains(kinds, y.Feed.Kind) && (j == 0 || x.Early[j-1].Seq < y.Seq)
		}
	}
	return ok
}

func packetWords(p api.Packet) bool {
	if p.From < 0 || p.From > 3 || p.To < 0 || p.To > 3 || p.Seq < 0 {
		return false
	}
	return p.Ack && p.Seq <= most || !p.Ack && p.Seq <= most-1 && p.Feed.Kind >= api.FdCommit && p.Feed.Kind <= api.FdNote
}

// agree is one call of each kind at links that may be, held against the plain ones; answered are the links behind one of them.
func (x *dice) agree(t *testing.T, l []api.Link, p *plain) []api.Link {
	t.Helper()
	from := x.roll(4)
	same(t, "Sends", sends(t, l, from), p.sends(from))
	peer, f := x.roll(4), x.feed()
	if x.roll(8) == 0 {
		peer, f.Kind = x.one(-1, 0, 1, 4), api.FeedKind(x.one(0, 1, 6, 7))
	}
	if x.roll(3) == 0 {
		next, e := queue.Push(l, peer, f)
		if want := p.push(peer, f); e != want {
			t.Fatal("Push", peer, f.Kind, e, want)
		}
		if e != api.OK {
			if len(next) != 0 {
				t.Fatal("Push", next)
			}
			return l
		}
		return next
	}
	y := x.packet(p)
	next, told, back, e := queue.Take(l, y)
	told2, back2, want := p.take(y)
	if e != want {
		t.Fatalf("Take %+v: %v, not %v", y, e, want)
	}
	same(t, "told", told, told2)
	same(t, "back", back, back2)
	if e != api.OK {
		if len(next) != 0 {
			t.Fatal("Take", next)
		}
		return l
	}
	return next
}

// packet is one that comes to a server, most of them about where its link stands.
func (x *dice) packet(p *plain) api.Packet {
	y := api.Packet{From: x.roll(4), To: x.roll(4), Ack: x.roll(3) == 0, Feed: x.feed()}
	e := p[y.From]
	if y.Ack {
		y.Seq = max(0, e.next-x.roll(6)+x.roll(2))
	} else {
		y.Seq = e.expect + x.one(0, 0, 0, 1, 1, 2, 3, 4, -1, -2, pending-1, pending, pending+1)
	}
	if x.roll(20) == 0 {
		y.Seq = x.one(edges()...)
	}
	if x.roll(40) == 0 {
		y.From, y.Feed.Kind = x.one(-1, 4, 1), api.FeedKind(x.roll(9))
	}
	return y
}

// TestP174Plays holds any row of calls against the chapter's words.
func TestP174Plays(t *testing.T) {
	x := dice(174)
	for range 150 {
		var l []api.Link
		if x.roll(3) > 0 {
			l = x.links()
		}
		p := plainOf(l)
		for range 40 {
			l = x.agree(t, l, p)
			same(t, "links", l, p.links())
			if e := queue.Check(l); e != api.OK {
				t.Fatal(e)
			}
		}
	}
}

// spoil changes a number now and then.
func (x *dice) spoil(n *int, often int) {
	if x.roll(often) == 0 {
		*n += x.one(-1, 1, -5, 5, pending, most, -most, math.MinInt, math.MaxInt)
	}
}

func (x *dice) spoilKind(f *api.Feed, often int) {
	if x.roll(often) == 0 {
		f.Kind = api.FeedKind(x.one(0, 7, 8, 255))
	}
}

// odd is links of which some numbers are anything.
func (x *dice) odd() []api.Link {
	l := x.links()
	for i := range l {
		x.spoil(&l[i].Peer, 20)
		x.spoil(&l[i].Next, 20)
		x.spoil(&l[i].Expect, 20)
		for j := range l[i].Queue {
			x.spoilKind(&l[i].Queue[j], 60)
		}
		for j := range l[i].Early {
			x.spoil(&l[i].Early[j].Seq, 40)
			x.spoilKind(&l[i].Early[j].Feed, 60)
		}
	}
	return l
}

// TestP171Any holds all calls against the words at links of which some numbers are anything. (R1 too: none panics.)
func TestP171Any(t *testing.T) {
	x := dice(171)
	good, bad := 0, 0
	for range 5000 {
		l := x.odd()
		if linkWords(l) {
			good++
			if e := queue.Check(l); e != api.OK {
				t.Fatalf("%v: %+v", e, l)
			}
			p := plainOf(l)
			same(t, "links", x.agree(t, l, p), p.links())
			continue
		}
		bad++
		if e := queue.Check(l); e != api.ErrArg {
			t.Fatalf("%v: %+v", e, l)
		}
		unpushed(t, "any", l, x.roll(6)-1, x.feed(), api.ErrArg)
		unsent(t, "any", l, x.roll(6)-1)
		untaken(t, "any", l, x.packet(plainOf(nil)))
	}
	if good < 500 || bad < 500 {
		t.Error(good, bad)
	}
}

// mayCome: is what was told a beginning of what was pushed?
func mayCome(t *testing.T, told, pushed []api.Feed) {
	t.Helper()
	if len(told) > len(pushed) {
		t.Fatal(len(told), "told of", len(pushed))
	}
	same(t, "told", told, pushed[:len(told)])
}

// TestP175Orders: four feeds are taken in each order, with each loss and each copy: six packets of whatever numbers.
func TestP175Orders(t *testing.T) {
	var l []api.Link
	for n := range 4 {
		l = push(t, l, 1, feed(n))
	}
	sent := sends(t, l, 0)
	for order := range 1 << 12 {
		var r []api.Link
		var told []api.Feed
		come := 0
		here := l
		for i := range 6 {
			n := order >> (2 * i) & 3
			come |= 1 << n
			next, got, back, e := queue.Take(r, sent[n])
			if e != api.OK {
				t.Fatal(e)
			}
			r, told = next, append(told, got...)
			// All is told that has come without a gap, and that is what is sent back.
			for n = 0; come>>n&1 == 1; n++ {
			}
			same(t, "told", told, feeds(run(0, n)...))
			same(t, "back", back, []api.Packet{ack(1, 0, n)})
			here, _, _, e = queue.Take(here, back[0])
			if e != api.OK || len(here[0].Queue) != 4-n {
				t.Fatal(e, here)
			}
		}
		for _, p := range sends(t, here, 0) {
			next, got, _, _ := queue.Take(r, p)
			r, told = next, append(told, got...)
		}
		same(t, "all", told, feeds(0, 1, 2, 3))
	}
}

// world is four servers, each with links to the others, and the packets on their way between them.
type world struct {
	links        [4][]api.Link
	pushed, told [4][4][]api.Feed
	way          []api.Packet
}

func (w *world) push(t *testing.T, from, to int, f api.Feed) {
	next, e := queue.Push(w.links[from], to, f)
	if e != api.OK {
		t.Fatal(e)
	}
	w.links[from], w.pushed[from][to] = next, append(w.pushed[from][to], f)
}

// tick sends all that was not acknowledged.
func (w *world) tick(t *testing.T, from int) {
	p, e := queue.Sends(w.links[from], from)
	if e != api.OK {
		t.Fatal(e)
	}
	w.way = append(w.way, p...)
}

func (w *world) take(t *testing.T, p api.Packet) {
	next, told, back, e := queue.Take(w.links[p.To], p)
	if e != api.OK || queue.Check(next) != api.OK {
		t.Fatal(e)
	}
	w.links[p.To], w.told[p.From][p.To] = next, append(w.told[p.From][p.To], told...)
	mayCome(t, w.told[p.From][p.To], w.pushed[p.From][p.To])
	w.way = append(w.way, back...)
}

// settle takes in order all that is sent, and then there is nothing more to send.
func (w *world) settle(t *testing.T) {
	w.way = nil
	for from := range 4 {
		w.tick(t, from)
	}
	for len(w.way) > 0 {
		p := w.way[0]
		w.way = w.way[1:]
		w.take(t, p)
	}
	for from := range 4 {
		for to := range 4 {
			same(t, "all", w.told[from][to], w.pushed[from][to])
			if len(of(w.links[from], to).Queue)+len(of(w.links[from], to).Early) != 0 {
				t.Fatal("something is left")
			}
		}
	}
}

// TestP175Nets: four servers tell one another at any times; of the packets any are taken, copied and lost, in any order.
func TestP175Nets(t *testing.T) {
	x := dice(175)
	for range 40 {
		var w world
		lost := x.roll(3)
		for range 150 {
			switch from := x.roll(4); x.roll(6) {
			case 0, 1:
				w.push(t, from, x.roll(4), x.feed())
			case 2:
				if len(w.way) < 200 {
					w.tick(t, from)
				}
			default:
				if len(w.way) == 0 {
					continue
				}
				at := x.roll(len(w.way))
				p := w.way[at]
				if x.roll(4) > 0 {
					w.way = slices.Delete(w.way, at, at+1)
				}
				if x.roll(3) >= lost {
					w.take(t, p)
				}
			}
		}
		w.settle(t)
		w.settle(t)
	}
}

// TestP175Old: what was taken once may come again however late, and so may an old Ack.
func TestP175Old(t *testing.T) {
	x := dice(1750)
	var w world
	var all []api.Packet
	for n := range 30 {
		w.push(t, 0, 1, feed(n))
		w.push(t, 1, 0, feed(n+100))
		w.tick(t, n%2)
		all = append(all, w.way...)
		for range 4 {
			w.take(t, all[x.roll(len(all))])
		}
		all = append(all, w.way...)
		w.way = nil
	}
	w.settle(t)
	for _, p := range all {
		before := fresh.List(w.links[p.To], fresh.Link)
		w.take(t, p)
		same(t, "an old packet", w.links[p.To], before)
	}
}

// TestP175Far: more is pushed and told than a link holds at one time, and the receiver is behind, or ahead, by up to all of it.
func TestP175Far(t *testing.T) {
	var l, r []api.Link
	told := 0
	for round := range 2 {
		for i := range pending {
			next, e := queue.Push(l, 1, feed(round*pending+i))
			if e != api.OK {
				t.Fatal(e)
			}
			l = next
		}
		unpushed(t, "full", l, 1, feed(0), api.ErrLimit)
		sent := sends(t, l, 0)
		var back []api.Packet
		for i := range sent {
			// From the last one to the first one, or in order.
			p := sent[i]
			if round == 1 {
				p = sent[len(sent)-1-i]
			}
			next, got, b, e := queue.Take(r, p)
			if e != api.OK {
				t.Fatal(e)
			}
			for _, f := range got {
				same(t, "told", f, feed(told))
				told++
			}
			r, back = next, b
		}
		if told != (round+1)*pending {
			t.Fatal(told)
		}
		l = hears(t, l, back[0], api.Link{Peer: 1, Next: told})
	}
}
