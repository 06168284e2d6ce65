package server_test

import (
	"math"
	"reflect"
	"slices"
	"testing"

	"phratry/api"
	"phratry/server"
	"phratry/tree"
)

const (
	most    = 1 << 40
	pending = 1024
)

// grown is a tree into which members came one behind the other.
func grown(members ...int) (t api.Tree) {
	for _, m := range members {
		next, _, e := tree.Add(t, api.Add{Member: m, Epoch: m % 3, Pub: m%9 + 1})
		if e != api.OK {
			panic(e)
		}
		t = next
	}
	return t
}

// without is a tree out of which members went: it has blank leaves.
func without(t api.Tree, members ...int) api.Tree {
	for _, m := range members {
		next, e := tree.Remove(t, m)
		if e != api.OK {
			panic(e)
		}
		t = next
	}
	return t
}

// commit is one that may be decided, if the members are such of its group. It has something in each field.
func commit(group, epoch int, members ...int) api.Commit {
	c := api.Commit{Group: group, Epoch: epoch, By: 900 + epoch, Member: 80, KeyEpoch: 7, External: epoch%2 == 1, Own: 81}
	c.Adds, c.Removes = []api.Add{{Member: 82, Epoch: 1, Pub: 83}}, []int{84, 85}
	c.Seals, c.Joins = []api.Seal{{At: 1, To: 2, Term: 86}}, []api.Join{{Member: 87, Term: 88}}
	c.Entry, c.Face, c.Card, c.Next = 89, 100+epoch, 200+epoch, grown(members...)
	return c
}

func number(seq int, r api.Request) api.Request {
	r.Seq = seq
	return r
}

// opens, commits, asks, faces and notes are requests, each with something in the fields that nobody looks at.
func opens(c api.Commit) api.Request {
	return api.Request{Kind: api.RqOpen, Commit: c, N: -9, Note: api.Note{Group: 999}}
}

func commits(c api.Commit) api.Request {
	return api.Request{Kind: api.RqCommit, Commit: c, N: -9, Note: api.Note{Group: 999}}
}

func asks(user int) api.Request {
	return api.Request{Kind: api.RqAsk, N: user, Commit: api.Commit{Group: 999}, Note: api.Note{Group: 999}}
}

func faces(group int) api.Request {
	return api.Request{Kind: api.RqFace, N: group, Commit: api.Commit{Group: 999}, Note: api.Note{Group: 999}}
}

func notes(n api.Note) api.Request {
	return api.Request{Kind: api.RqNote, Note: n, N: -9, Commit: api.Commit{Group: 999}}
}

// note is one of a group's epoch, with something in each field.
func note(group, epoch int) api.Note {
	return api.Note{Group: group, Epoch: epoch, By: 71, N: 72, Term: 73}
}

func noMail(group, epoch int) api.Mail {
	return api.Mail{Kind: api.MlNo, Group: group, Epoch: epoch}
}

func commitMail(c api.Commit) api.Mail { return api.Mail{Kind: api.MlCommit, Commit: c} }

func cardMail(c api.Card) api.Mail { return api.Mail{Kind: api.MlCard, Card: c} }

func noteMail(n api.Note) api.Mail { return api.Mail{Kind: api.MlNote, Note: n} }

// faceMail is what is public of the epoch that a commit made.
func faceMail(c api.Commit) api.Mail {
	return api.Mail{Kind: api.MlFace, Face: api.Face{Group: c.Group, Epoch: c.Epoch, Tree: c.Next, Pub: c.Face}}
}

// cardOf is the card that a commit of an account gives its user.
func cardOf(c api.Commit) api.Card {
	return api.Card{User: -1 - c.Group, Epoch: c.Epoch, Pub: c.Card}
}

// What one server tells another.
func toldCommit(from int, c api.Commit) api.Feed {
	return api.Feed{Kind: api.FdCommit, From: from, Commit: c}
}

func toldUser(user int, m api.Mail) api.Feed {
	return api.Feed{Kind: api.FdMail, To: user, Mail: m}
}

func toldDevice(device int, m api.Mail) api.Feed {
	return api.Feed{Kind: api.FdDevice, To: device, Mail: m}
}

func toldAsk(user, from int) api.Feed {
	return api.Feed{Kind: api.FdAsk, To: user, From: from}
}

func toldFace(group, from int) api.Feed {
	return api.Feed{Kind: api.FdFace, To: group, From: from}
}

func toldNote(n api.Note, from int) api.Feed {
	return api.Feed{Kind: api.FdNote, From: from, Note: n}
}

func data(from, to, seq int, f api.Feed) api.Packet {
	return api.Packet{From: from, To: to, Seq: seq, Feed: f}
}

func ack(from, to, seq int) api.Packet {
	return api.Packet{From: from, To: to, Ack: true, Seq: seq}
}

func box(device, done int, mail ...api.Mail) api.Box {
	return api.Box{Device: device, Done: done, Mail: mail}
}

func out(b api.Box) api.Box {
	b.Out = true
	return b
}

// link is one of a peer, to which some things were told, and none came.
func link(peer int, queue ...api.Feed) api.Link {
	return api.Link{Peer: peer, Next: len(queue), Queue: queue}
}

// heard is a link from which so many things have come.
func heard(many int, l api.Link) api.Link {
	l.Expect = many
	return l
}

func log(commits ...api.Commit) api.Log {
	return api.Log{Group: commits[0].Group, Commits: commits}
}

// alike: are two things the same, an empty list and none being the same?
func alike(a, b reflect.Value) bool {
	switch a.Kind() {
	case reflect.Struct:
		for i := range a.NumField() {
			if !alike(a.Field(i), b.Field(i)) {
				return false
			}
		}
		return true
	case reflect.Slice:
		if a.Len() != b.Len() {
			return false
		}
		for i := range a.Len() {
			if !alike(a.Index(i), b.Index(i)) {
				return false
			}
		}
		return true
	}
	return a.Equal(b)
}

func same[T any](t *testing.T, what string, got, want T) {
	t.Helper()
	if !alike(reflect.ValueOf(got), reflect.ValueOf(want)) {
		t.Fatalf("%s: %+v, not %+v", what, got, want)
	}
}

// copied is the same in memory of its own.
func copied[T any](x T) T {
	v := reflect.New(reflect.TypeOf(x)).Elem()
	copyInto(v, reflect.ValueOf(x))
	return v.Interface().(T)
}

func copyInto(to, from reflect.Value) {
	switch from.Kind() {
	case reflect.Struct:
		for i := range from.NumField() {
			copyInto(to.Field(i), from.Field(i))
		}
	case reflect.Slice:
		if from.Len() > 0 {
			to.Set(reflect.MakeSlice(from.Type(), from.Len(), from.Len()))
		}
		for i := range from.Len() {
			copyInto(to.Index(i), from.Index(i))
		}
	default:
		to.Set(from)
	}
}

// kept runs something that must not change a server.
func kept(t *testing.T, s api.Server, call func()) {
	t.Helper()
	before := copied(s)
	call()
	same(t, "what was handed in", s, before)
}

func newServer(number int) api.Server { return api.Server{Number: number} }

func ask(t *testing.T, s api.Server, device int, r api.Request) (next api.Server) {
	t.Helper()
	kept(t, s, func() {
		var e api.Errno
		if next, e = server.Ask(s, device, r); e != api.OK {
			t.Fatal(device, e)
		}
	})
	if e := server.Check(next); e != api.OK {
		t.Fatal("Ask answers what may not be", e)
	}
	return next
}

func unasked(t *testing.T, what string, s api.Server, device int, r api.Request, want api.Errno) {
	t.Helper()
	kept(t, s, func() {
		next, e := server.Ask(s, device, r)
		if e != want || !reflect.DeepEqual(next, api.Server{}) {
			t.Error(what, device, r, e, next)
		}
	})
}

func take(t *testing.T, s api.Server, p api.Packet) (next api.Server, back []api.Packet) {
	t.Helper()
	kept(t, s, func() {
		var e api.Errno
		if next, back, e = server.Take(s, p); e != api.OK {
			t.Fatal(p, e)
		}
	})
	if e := server.Check(next); e != api.OK {
		t.Fatal("Take answers what may not be", e)
	}
	return next, back
}

func untaken(t *testing.T, what string, s api.Server, p api.Packet, want api.Errno) {
	t.Helper()
	kept(t, s, func() {
		next, back, e := server.Take(s, p)
		if e != want || len(back) != 0 || !reflect.DeepEqual(next, api.Server{}) {
			t.Error(what, p, e, next, back)
		}
	})
}

// told is a server that is told something by another one, in its turn; an Ack is sent back.
func told(t *testing.T, s api.Server, from int, f api.Feed) api.Server {
	t.Helper()
	expect := of(s, from).Expect
	next, back := take(t, s, data(from, s.Number, expect, f))
	same(t, "back", back, []api.Packet{ack(s.Number, from, expect+1)})
	return next
}

// of is the link of a peer, a new one if there is none.
func of(s api.Server, peer int) api.Link {
	for _, x := range s.Links {
		if x.Peer == peer {
			return x
		}
	}
	return api.Link{Peer: peer}
}

// home is the server 1 with accounts of the users 1 and 5, the conversations 1 and 5, and links to 0 and 3.
func home() api.Server {
	c0, c1 := commit(-2, 0, 8), commit(-2, 1, 8, 9)
	d0 := commit(-6, 0, 40)
	g0, g1 := commit(1, 0, 1), commit(1, 1, 1, 5, 2, 0, 6)
	h0 := commit(5, 0, 4)
	s := newServer(1)
	s.Logs = []api.Log{log(d0), log(c0, c1), log(g0, g1), log(h0)}
	s.Boxes = []api.Box{box(8, 3, commitMail(c0), commitMail(c1)), box(9, 0, commitMail(c1)), out(box(10, 4, noMail(5, 5))), box(40, 7)}
	s.Cards = []api.Card{cardOf(c1), cardOf(d0)}
	s.Links = []api.Link{{Peer: 0, Next: 5, Queue: []api.Feed{toldAsk(0, 8)}, Expect: 2}, heard(7, link(3))}
	return s
}

// posted is a server with one mail more in some boxes.
func posted(s api.Server, m api.Mail, devices ...int) api.Server {
	s = copied(s)
	for i := range s.Boxes {
		if slices.Contains(devices, s.Boxes[i].Device) {
			s.Boxes[i].Mail = append(s.Boxes[i].Mail, copied(m))
		}
	}
	return s
}

// done is a server with one request more of a device done.
func done(s api.Server, device int) api.Server {
	s = copied(s)
	for i := range s.Boxes {
		if s.Boxes[i].Device == device {
			s.Boxes[i].Done++
		}
	}
	return s
}

// tells is a server that tells a peer something more.
func tells(s api.Server, peer int, f api.Feed) api.Server {
	return linked(s, peer, func(l *api.Link) {
		l.Queue, l.Next = append(l.Queue, copied(f)), l.Next+1
	})
}

// hears is a server to which so many things more have come from a peer.
func hears(s api.Server, peer, many int) api.Server {
	return linked(s, peer, func(l *api.Link) { l.Expect += many })
}

// linked is a server with a link turned, which is made if there is none.
func linked(s api.Server, peer int, turn func(*api.Link)) api.Server {
	s = copied(s)
	l := of(s, peer)
	turn(&l)
	s.Links = slices.DeleteFunc(s.Links, func(x api.Link) bool { return x.Peer == peer })
	s.Links = append(s.Links, l)
	slices.SortFunc(s.Links, func(a, b api.Link) int { return a.Peer - b.Peer })
	return s
}

// logged is a server with a commit more in its logs.
func logged(s api.Server, c api.Commit) api.Server {
	s = copied(s)
	for i := range s.Logs {
		if s.Logs[i].Group == c.Group {
			s.Logs[i].Commits = append(s.Logs[i].Commits, copied(c))
			return s
		}
	}
	s.Logs = append(s.Logs, log(copied(c)))
	slices.SortFunc(s.Logs, func(a, b api.Log) int { return a.Group - b.Group })
	return s
}

// carded is a server with the card that a commit of an account gives.
func carded(s api.Server, c api.Commit) api.Server {
	s = copied(s)
	card := cardOf(c)
	s.Cards = slices.DeleteFunc(s.Cards, func(x api.Card) bool { return x.User == card.User })
	s.Cards = append(s.Cards, card)
	slices.SortFunc(s.Cards, func(a, b api.Card) int { return a.User - b.User })
	return s
}

// boxed is a server with a box more.
func boxed(s api.Server, b api.Box) api.Server {
	s = copied(s)
	s.Boxes = append(s.Boxes, copied(b))
	slices.SortFunc(s.Boxes, func(a, b api.Box) int { return a.Device - b.Device })
	return s
}

// shut is a server of which a box is Out.
func shut(s api.Server, device int) api.Server {
	s = copied(s)
	for i := range s.Boxes {
		if s.Boxes[i].Device == device {
			s.Boxes[i].Out = true
		}
	}
	return s
}

// TestP201New: each server's number makes one that has nothing; others make none.
func TestP201New(t *testing.T) {
	for number := range 4 {
		s, e := server.New(number)
		if e != api.OK || server.Check(s) != api.OK {
			t.Error(number, e)
		}
		same(t, "New", s, api.Server{Number: number})
	}
	for _, number := range []int{-1, 4, 5, 16, math.MinInt, math.MaxInt, 1 << 32} {
		if s, e := server.New(number); e != api.ErrArg || !reflect.DeepEqual(s, api.Server{}) {
			t.Error(number, s, e)
		}
	}
}

// TestP201Check: servers that may be, up to the edges of what they may have.
func TestP201Check(t *testing.T) {
	var full []api.Log
	for user := 15; user >= 0; user-- {
		full = append(full, log(commit(-2-4*user, 0, 8*(4*user+1))))
	}
	empty := api.Server{Logs: []api.Log{}, Boxes: []api.Box{}, Cards: []api.Card{}, Links: []api.Link{}}
	free := commit(0, 0, 0)
	free.Card, free.Face = 0, -5
	wide := log(commit(63, 0, 0, 63, 5, 1, 2, 3, 4, 6))
	gone := commit(-1, 1, 0, 7)
	gone.Next = without(gone.Next, 0)
	for what, s := range map[string]api.Server{
		"no server":           {},
		"empty lists":         empty,
		"home":                home(),
		"last of all":         {Number: 3, Logs: []api.Log{log(commit(-64, 0, 511, 504)), wide}, Boxes: []api.Box{box(24, most), box(511, 0)}, Cards: []api.Card{{User: 3, Pub: 1}, {User: 63, Pub: math.MaxInt, Epoch: math.MaxInt}}},
		"sixteen logs":        {Number: 1, Logs: full},
		"no card of a group":  {Logs: []api.Log{log(free)}},
		"a member went":       {Logs: []api.Log{log(commit(-1, 0, 0, 7), gone)}},
		"mail of any kind":    {Boxes: []api.Box{box(0, 0, api.Mail{Kind: 99, Group: -1000})}},
		"a box without a log": {Boxes: []api.Box{box(39, 0)}},
		"links":               {Number: 2, Links: []api.Link{{Peer: 0, Next: most, Expect: most}, {Peer: 1, Next: 2, Queue: []api.Feed{{Kind: api.FdAsk, To: -1}, {Kind: api.FdCommit}}}, {Peer: 3, Early: []api.Early{{Seq: most - 1, Feed: toldAsk(900, 900)}}}}},
	} {
		if e := server.Check(s); e != api.OK {
			t.Error(what, e)
		}
		if !serverWords(s) {
			t.Error(what, "by the words")
		}
	}
}

// spoilt are servers that may not be, each by one thing.
func spoilt() map[string]api.Server {
	all := map[string]api.Server{}
	put := func(what string, turn func(*api.Server)) {
		s := home()
		turn(&s)
		all[what] = s
	}
	for _, n := range []int{-1, 4, 0, 2, 3, math.MaxInt, math.MinInt} {
		all["number"+string(rune('a'+len(all)))] = api.Server{Number: n, Logs: home().Logs, Boxes: home().Boxes, Cards: home().Cards}
	}
	all["number -1, empty"], all["number 4, empty"] = newServer(-1), newServer(4)
	badLogs(put)
	badBoxes(put)
	badCards(put)
	badLinks(put)
	return all
}

func badLogs(put func(string, func(*api.Server))) {
	logs := func(what string, l ...api.Log) {
		put(what, func(s *api.Server) { s.Logs = l })
	}
	logs("group 64", log(commit(64, 0, 1)))
	logs("group -65", log(commit(-65, 0, 512)))
	logs("a group's home", log(commit(2, 0, 1)))
	logs("an account's home", log(commit(-1, 0, 0)))
	logs("a log's group", api.Log{Group: 5, Commits: []api.Commit{commit(1, 0, 1)}})
	logs("no commits", api.Log{Group: 1})
	logs("from the epoch 1 on", log(commit(1, 1, 1)))
	logs("a gap", log(commit(1, 0, 1), commit(1, 2, 1)))
	logs("falling", log(commit(5, 0, 1)), log(commit(1, 0, 1)))
	logs("twice", log(commit(1, 0, 1)), log(commit(1, 0, 1)))
	logs("no tree", log(commit(1, 0)))
	logs("half a tree", log(api.Commit{Group: 1, Next: api.Tree{Nodes: make([]api.Node, 2)}}))
	logs("a member 64", log(commit(1, 0, 64)))
	logs("a member of users", log(commit(1, 0, 1, 2, 64)))
	logs("another user's device", log(commit(-2, 0, 16)))
	logs("another user's device, too", log(commit(-2, 0, 8, 16)))
	logs("a device 512", log(commit(-2, 0, 512)))
	logs("later", log(commit(-2, 0, 8), commit(-2, 1, 8, 7)))
	cards := func(what string, card int) {
		c := commit(-2, 0, 8)
		c.Card = card
		logs(what, log(c))
	}
	cards("card 0", 0)
	cards("card -1", -1)
	var many []api.Log
	for user := 14; user >= 0; user-- {
		many = append(many, log(commit(-2-4*user, 0, 8*(4*user+1))))
	}
	logs("seventeen", append(many, log(commit(1, 0, 1)), log(commit(5, 0, 1)))...)
}

func badBoxes(put func(string, func(*api.Server))) {
	boxes := func(what string, l ...api.Box) {
		put(what, func(s *api.Server) { s.Boxes = l })
	}
	boxes("a box's home", box(0, 0))
	boxes("a box's home, last", box(8, 0), box(16, 0))
	boxes("a box of -1", box(-1, 0))
	boxes("a box of 512", box(520, 0))
	boxes("boxes fall", box(9, 0), box(8, 0))
	boxes("boxes twice", box(8, 0), box(8, 0))
	boxes("done below 0", box(8, -1))
	boxes("done above all", box(8, most+1))
}

func badCards(put func(string, func(*api.Server))) {
	cards := func(what string, l ...api.Card) {
		put(what, func(s *api.Server) { s.Cards = l })
	}
	cards("a card's home", api.Card{User: 0, Pub: 1})
	cards("a card's home, last", api.Card{User: 1, Pub: 1}, api.Card{User: 3, Pub: 1})
	cards("a card of 65", api.Card{User: 65, Pub: 1})
	cards("a card of -3", api.Card{User: -3, Pub: 1})
	cards("no key", api.Card{User: 1})
	cards("a key below 0", api.Card{User: 1, Pub: -1})
	cards("an epoch below 0", api.Card{User: 1, Pub: 1, Epoch: -1})
	cards("cards fall", api.Card{User: 5, Pub: 1}, api.Card{User: 1, Pub: 1})
	cards("cards twice", api.Card{User: 5, Pub: 1}, api.Card{User: 5, Pub: 1})
	cards("cards begin with two of 0", api.Card{Pub: 1}, api.Card{Pub: 1})
}

func badLinks(put func(string, func(*api.Server))) {
	links := func(what string, l ...api.Link) {
		put(what, func(s *api.Server) { s.Links = l })
	}
	links("a link to itself", link(1))
	links("a link to itself, among others", link(0), link(1), link(2))
	links("a link to 4", link(4))
	links("a link to -1", link(-1))
	links("links fall", link(2), link(0))
	links("links twice", link(2), link(2))
	links("nothing told", link(2, api.Feed{}))
	links("told what is none", link(2, api.Feed{Kind: 7}))
	links("more than Next", api.Link{Peer: 2, Queue: []api.Feed{toldAsk(2, 8)}})
	links("Next", api.Link{Peer: 2, Next: most + 1})
	links("Expect", api.Link{Peer: 2, Expect: -1})
	links("early", api.Link{Peer: 2, Expect: 3, Early: []api.Early{{Seq: 3, Feed: toldAsk(1, 8)}}})
	links("above MaxPending", link(2, slices.Repeat([]api.Feed{toldAsk(2, 8)}, pending+1)...))
}

// TestP201Spoilt: no call answers anything of a server that may not be. (P20.2 to P20.4 too.)
func TestP201Spoilt(t *testing.T) {
	for what, s := range spoilt() {
		if e := server.Check(s); e != api.ErrArg {
			t.Error(what, e)
		}
		if serverWords(s) {
			t.Error(what, "by the words")
		}
		for number := range 4 {
			unasked(t, what, s, 8*number, asks(number), api.ErrArg)
			untaken(t, what, s, ack((number+1)%4, number, 0), api.ErrArg)
			untaken(t, what, s, data((number+1)%4, number, 0, toldAsk(number, 8)), api.ErrArg)
		}
		kept(t, s, func() {
			if l, e := server.Tick(s); e != api.ErrArg || len(l) != 0 {
				t.Error(what, l, e)
			}
			if l, e := server.Mail(s, 8, 0); e != api.ErrArg || len(l) != 0 {
				t.Error(what, l, e)
			}
		})
	}
}

// TestP202Examples: the chapter's table.
func TestP202Examples(t *testing.T) {
	s := newServer(0)
	c0 := commit(-1, 0, 0)
	a := ask(t, s, 0, opens(c0))
	want := api.Server{Logs: []api.Log{log(c0)}, Boxes: []api.Box{box(0, 1, commitMail(c0))}, Cards: []api.Card{cardOf(c0)}}
	same(t, "opened", a, want)
	same(t, "once more", ask(t, a, 0, opens(c0)), want)
	a = ask(t, a, 0, number(1, commits(c0)))
	want = done(posted(want, noMail(-1, 0), 0), 0)
	same(t, "committed", a, want)
	a = ask(t, a, 0, number(2, asks(1)))
	want = tells(done(want, 0), 1, toldAsk(1, 0))
	same(t, "asked", a, want)
	unasked(t, "not at home here", a, 8, asks(0), api.ErrArg)

	p, e := server.Tick(a)
	if e != api.OK {
		t.Fatal(e)
	}
	same(t, "sent", p, []api.Packet{data(0, 1, 0, toldAsk(1, 0))})
	b, back := take(t, newServer(1), p[0])
	same(t, "told", b, api.Server{Number: 1, Links: []api.Link{heard(1, link(0))}})
	same(t, "back", back, []api.Packet{ack(1, 0, 1)})
}

// TestP204Tick: what was told and not acknowledged is sent, link by link.
func TestP204Tick(t *testing.T) {
	ticks := func(s api.Server, want ...api.Packet) {
		t.Helper()
		kept(t, s, func() {
			got, e := server.Tick(s)
			if e != api.OK {
				t.Fatal(e)
			}
			same(t, "Tick", got, want)
		})
	}
	for number := range 4 {
		ticks(newServer(number))
	}
	s := home()
	ticks(s, data(1, 0, 4, toldAsk(0, 8)))
	s = tells(tells(tells(s, 3, toldUser(3, noMail(1, 2))), 2, toldFace(2, 9)), 3, toldNote(note(3, 3), 8))
	ticks(s, data(1, 0, 4, toldAsk(0, 8)), data(1, 2, 0, toldFace(2, 9)), data(1, 3, 0, toldUser(3, noMail(1, 2))), data(1, 3, 1, toldNote(note(3, 3), 8)))
	s, _ = take(t, s, ack(3, 1, 1))
	ticks(s, data(1, 0, 4, toldAsk(0, 8)), data(1, 2, 0, toldFace(2, 9)), data(1, 3, 1, toldNote(note(3, 3), 8)))
}

// TestP204Mail: what post.Since answers.
func TestP204Mail(t *testing.T) {
	s := home()
	all := s.Boxes[0].Mail
	for cursor := range 3 {
		kept(t, s, func() {
			got, e := server.Mail(s, 8, cursor)
			if e != api.OK {
				t.Fatal(cursor, e)
			}
			same(t, "Mail", got, all[cursor:])
		})
	}
	got, e := server.Mail(s, 10, 0)
	if e != api.OK {
		t.Fatal(e)
	}
	same(t, "of one that is Out", got, []api.Mail{noMail(5, 5)})
	if got, e := server.Mail(s, 40, 0); e != api.OK || len(got) != 0 {
		t.Error(got, e)
	}
	for _, x := range []struct {
		device, cursor int
		want           api.Errno
	}{
		{8, -1, api.ErrArg}, {8, 3, api.ErrArg}, {8, math.MaxInt, api.ErrArg}, {8, math.MinInt, api.ErrArg}, {40, 1, api.ErrArg},
		{7, 0, api.ErrGone}, {11, 0, api.ErrGone}, {11, -1, api.ErrGone}, {0, 0, api.ErrGone}, {-1, 0, api.ErrGone}, {512, 0, api.ErrGone}, {math.MinInt, 0, api.ErrGone},
	} {
		if got, e := server.Mail(s, x.device, x.cursor); e != x.want || len(got) != 0 {
			t.Error(x, got, e)
		}
	}
	if got, e := server.Mail(newServer(0), 0, 0); e != api.ErrGone || len(got) != 0 {
		t.Error(got, e)
	}
}
