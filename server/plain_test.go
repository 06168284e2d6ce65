package server_test

import (
	"maps"
	"slices"
	"testing"

	"phratry/api"
	"phratry/server"
	"phratry/tree"
)

// The chapter's words about what may be, said plainly.

func isUser(n int) bool { return n >= 0 && n <= 63 }

func isDevice(n int) bool { return n >= 0 && n <= 511 }

func isGroup(n int) bool { return n >= -64 && n <= 63 }

// groupHome is where a group is at home: an account where its user is.
func groupHome(group int) int {
	if group < 0 {
		return (-1 - group) % 4
	}
	return group % 4
}

// leavesOf is the members of a tree as its nodes have them.
func leavesOf(t api.Tree) (members []int) {
	for i, n := range t.Nodes {
		if i%2 == 0 && n.Pub > 0 {
			members = append(members, n.Member)
		}
	}
	return members
}

func commitWords(c api.Commit) bool {
	if !isGroup(c.Group) || c.Epoch < 0 || tree.Check(c.Next) != api.OK || len(c.Next.Nodes) == 0 || c.Group < 0 && c.Card <= 0 {
		return false
	}
	for _, m := range leavesOf(c.Next) {
		if c.Group >= 0 && !isUser(m) || c.Group < 0 && (!isDevice(m) || m/8 != -1-c.Group) {
			return false
		}
	}
	return true
}

func requestWords(s api.Server, device int, r api.Request) bool {
	if !isDevice(device) || device/8%4 != s.Number || r.Seq < 0 {
		return false
	}
	switch r.Kind {
	case api.RqOpen:
		return commitWords(r.Commit) && r.Commit.Group == -1-device/8 && r.Commit.Epoch == 0
	case api.RqCommit:
		return commitWords(r.Commit)
	case api.RqAsk:
		return isUser(r.N)
	case api.RqFace:
		return isGroup(r.N)
	case api.RqNote:
		return isGroup(r.Note.Group)
	}
	return false
}

// toldWords: may something be told to that server?
func toldWords(number int, f api.Feed) bool {
	switch f.Kind {
	case api.FdCommit:
		return commitWords(f.Commit) && isDevice(f.From) && groupHome(f.Commit.Group) == number
	case api.FdMail:
		return isUser(f.To) && f.To%4 == number
	case api.FdAsk:
		return isUser(f.To) && isDevice(f.From) && f.To%4 == number
	case api.FdDevice:
		return isDevice(f.To) && f.To/8%4 == number
	case api.FdFace:
		return isGroup(f.To) && isDevice(f.From) && groupHome(f.To) == number
	case api.FdNote:
		return isGroup(f.Note.Group) && isDevice(f.From) && groupHome(f.Note.Group) == number
	}
	return false
}

func packetWords(s api.Server, p api.Packet) bool {
	if p.From < 0 || p.From > 3 || p.From == s.Number || p.To != s.Number || p.Seq < 0 || p.Seq > most {
		return false
	}
	return p.Ack || p.Seq < most && toldWords(s.Number, p.Feed)
}

func serverWords(s api.Server) bool {
	ok := s.Number >= 0 && s.Number <= 3 && len(s.Logs) <= 16
	for i, l := range s.Logs {
		ok = ok && isGroup(l.Group) && groupHome(l.Group) == s.Number && len(l.Commits) > 0 && (i == 0 || s.Logs[i-1].Group < l.Group)
		for k, c := range l.Commits {
			ok = ok && c.Group == l.Group && c.Epoch == k && commitWords(c)
		}
	}
	for i, b := range s.Boxes {
		ok = ok && isDevice(b.Device) && b.Device/8%4 == s.Number && b.Done >= 0 && b.Done <= most && (i == 0 || s.Boxes[i-1].Device < b.Device)
	}
	for i, c := range s.Cards {
		ok = ok && isUser(c.User) && c.User%4 == s.Number && c.Epoch >= 0 && c.Pub > 0 && (i == 0 || s.Cards[i-1].User < c.User)
	}
	for i, l := range s.Links {
		ok = ok && l.Peer != s.Number && linkWords(l) && (i == 0 || s.Links[i-1].Peer < l.Peer)
	}
	return ok
}

func linkWords(l api.Link) bool {
	ok := l.Peer >= 0 && l.Peer <= 3 && len(l.Queue) <= pending && len(l.Queue) <= l.Next && l.Next <= most && l.Expect >= 0 && l.Expect <= most
	for _, f := range l.Queue {
		ok = ok && f.Kind >= 1 && f.Kind <= 6
	}
	ok = ok && len(l.Early) <= pending
	for i, x := range l.Early {
		ok = ok && x.Seq > l.Expect && x.Seq < most && x.Feed.Kind >= 1 && x.Feed.Kind <= 6 && (i == 0 || l.Early[i-1].Seq < x.Seq)
	}
	return ok
}

// end is one link: by their numbers what is to be told, and what has come.
type end struct {
	next, expect int
	out, in      map[int]api.Feed
}

// plain is DOC.md's words about what a server keeps and does.
type plain struct {
	number int
	logs   map[int][]api.Commit
	boxes  map[int]*api.Box
	cards  map[int]api.Card
	links  map[int]*end
	full   bool // something had no room
}

func plainOf(s api.Server) *plain {
	s = copied(s)
	p := &plain{number: s.Number, logs: map[int][]api.Commit{}, boxes: map[int]*api.Box{}, cards: map[int]api.Card{}, links: map[int]*end{}}
	for _, l := range s.Logs {
		p.logs[l.Group] = l.Commits
	}
	for _, b := range s.Boxes {
		p.boxes[b.Device] = &b
	}
	for _, c := range s.Cards {
		p.cards[c.User] = c
	}
	for _, l := range s.Links {
		e := p.link(l.Peer)
		e.next, e.expect = l.Next, l.Expect
		for i, f := range l.Queue {
			e.out[l.Next-len(l.Queue)+i] = f
		}
		for _, x := range l.Early {
			e.in[x.Seq] = x.Feed
		}
	}
	return p
}

func rising[V any](m map[int]V) []int { return slices.Sorted(maps.Keys(m)) }

func (p *plain) server() api.Server {
	s := api.Server{Number: p.number}
	for _, g := range rising(p.logs) {
		s.Logs = append(s.Logs, api.Log{Group: g, Commits: p.logs[g]})
	}
	for _, d := range rising(p.boxes) {
		s.Boxes = append(s.Boxes, *p.boxes[d])
	}
	for _, u := range rising(p.cards) {
		s.Cards = append(s.Cards, p.cards[u])
	}
	for _, peer := range rising(p.links) {
		e := p.links[peer]
		l := api.Link{Peer: peer, Next: e.next, Expect: e.expect}
		for _, n := range rising(e.out) {
			l.Queue = append(l.Queue, e.out[n])
		}
		for _, n := range rising(e.in) {
			l.Early = append(l.Early, api.Early{Seq: n, Feed: e.in[n]})
		}
		s.Links = append(s.Links, l)
	}
	return s
}

func (p *plain) link(peer int) *end {
	if p.links[peer] == nil {
		p.links[peer] = &end{out: map[int]api.Feed{}, in: map[int]api.Feed{}}
	}
	return p.links[peer]
}

func (p *plain) tell(peer int, f api.Feed) {
	e := p.link(peer)
	p.full = p.full || len(e.out) == pending || e.next == most
	e.out[e.next] = f
	e.next++
}

// post puts mail into a box, if that is there and not Out.
func (p *plain) post(device int, m api.Mail) {
	if b := p.boxes[device]; b != nil && !b.Out {
		b.Mail = append(b.Mail, m)
	}
}

func (p *plain) toDevice(device int, m api.Mail) {
	if home := device / 8 % 4; home != p.number {
		p.tell(home, toldDevice(device, m))
		return
	}
	p.post(device, m)
}

func (p *plain) postUser(user int, m api.Mail) {
	for device := 8 * user; device < 8*user+8; device++ {
		p.post(device, m)
	}
}

func (p *plain) toUser(user int, m api.Mail) {
	if user%4 != p.number {
		p.tell(user%4, toldUser(user, m))
		return
	}
	p.postUser(user, m)
}

func (p *plain) open(device int) {
	if p.boxes[device] == nil {
		p.boxes[device] = &api.Box{Device: device}
	}
}

func (p *plain) decide(from int, c api.Commit) {
	l := p.logs[c.Group]
	if c.Epoch != len(l) || len(l) == 0 && len(p.logs) >= 16 {
		p.toDevice(from, noMail(c.Group, c.Epoch))
		return
	}
	behind := leavesOf(c.Next)
	all := slices.Clone(behind)
	if len(l) > 0 {
		all = append(all, leavesOf(l[len(l)-1].Next)...)
	}
	p.logs[c.Group] = append(l, c)
	if c.Group < 0 {
		p.cards[-1-c.Group] = api.Card{User: -1 - c.Group, Epoch: c.Epoch, Pub: c.Card}
	}
	for m := range 512 {
		switch {
		case !slices.Contains(all, m):
		case c.Group >= 0:
			p.toUser(m, commitMail(c))
		default:
			p.open(m)
			p.post(m, commitMail(c))
			p.boxes[m].Out = p.boxes[m].Out || !slices.Contains(behind, m)
		}
	}
}

func (p *plain) showCard(user, from int) {
	if c, there := p.cards[user]; there {
		p.toDevice(from, cardMail(c))
	}
}

func (p *plain) showFace(group, from int) {
	if l := p.logs[group]; len(l) > 0 {
		p.toDevice(from, faceMail(l[len(l)-1]))
	}
}

func (p *plain) takeNote(n api.Note, from int) {
	l := p.logs[n.Group]
	if len(l) == 0 || n.Epoch != len(l)-1 {
		return
	}
	members := leavesOf(l[len(l)-1].Next)
	if n.Group >= 0 && !slices.Contains(members, from/8) || n.Group < 0 && !slices.Contains(members, from) {
		return
	}
	for m := range 512 {
		switch {
		case !slices.Contains(members, m):
		case n.Group >= 0:
			p.toUser(m, noteMail(n))
		default:
			p.toDevice(m, noteMail(n))
		}
	}
}

func (p *plain) ask(device int, r api.Request) api.Errno {
	b := p.boxes[device]
	if b == nil {
		if r.Kind == api.RqOpen && len(p.logs[r.Commit.Group]) == 0 {
			p.open(device)
			p.decide(device, r.Commit)
			p.boxes[device].Done = 1
		}
		return p.room()
	}
	if r.Seq < b.Done {
		return api.OK
	}
	if b.Done == most {
		return api.ErrLimit
	}
	b.Done++
	if !b.Out {
		p.asked(device, r)
	}
	return p.room()
}

func (p *plain) asked(device int, r api.Request) {
	switch r.Kind {
	case api.RqCommit:
		if home := groupHome(r.Commit.Group); home != p.number {
			p.tell(home, toldCommit(device, r.Commit))
		} else {
			p.decide(device, r.Commit)
		}
	case api.RqAsk:
		if r.N%4 != p.number {
			p.tell(r.N%4, toldAsk(r.N, device))
		} else {
			p.showCard(r.N, device)
		}
	case api.RqFace:
		if home := groupHome(r.N); home != p.number {
			p.tell(home, toldFace(r.N, device))
		} else {
			p.showFace(r.N, device)
		}
	case api.RqNote:
		if home := groupHome(r.Note.Group); home != p.number {
			p.tell(home, toldNote(r.Note, device))
		} else {
			p.takeNote(r.Note, device)
		}
	}
}

func (p *plain) room() api.Errno {
	if p.full {
		return api.ErrLimit
	}
	return api.OK
}

func (p *plain) heard(f api.Feed) {
	if !toldWords(p.number, f) {
		return
	}
	switch f.Kind {
	case api.FdCommit:
		p.decide(f.From, f.Commit)
	case api.FdMail:
		p.postUser(f.To, f.Mail)
	case api.FdDevice:
		p.post(f.To, f.Mail)
	case api.FdAsk:
		p.showCard(f.To, f.From)
	case api.FdFace:
		p.showFace(f.To, f.From)
	case api.FdNote:
		p.takeNote(f.Note, f.From)
	}
}

func (p *plain) take(x api.Packet) ([]api.Packet, api.Errno) {
	e := p.link(x.From)
	if x.Ack {
		if x.Seq > e.next {
			return nil, api.ErrArg
		}
		maps.DeleteFunc(e.out, func(n int, _ api.Feed) bool { return n < x.Seq })
		return nil, api.OK
	}
	if _, came := e.in[x.Seq]; !came && x.Seq >= e.expect && x.Seq <= e.expect+pending {
		e.in[x.Seq] = x.Feed
	}
	for {
		f, turn := e.in[e.expect]
		if !turn {
			break
		}
		delete(e.in, e.expect)
		e.expect++
		p.heard(f)
	}
	return []api.Packet{ack(p.number, x.From, e.expect)}, p.room()
}

// agreeAsk is an Ask held against the plain words; answered is the server behind it.
func agreeAsk(t *testing.T, s api.Server, device int, r api.Request) (api.Server, api.Errno) {
	t.Helper()
	want := api.ErrArg
	p := plainOf(s)
	if serverWords(s) && requestWords(s, device, r) {
		want = p.ask(device, copied(r))
	}
	if want != api.OK {
		unasked(t, "plainly", s, device, r, want)
		return s, want
	}
	next := ask(t, s, device, r)
	same(t, "Ask", next, p.server())
	grows(t, s, next)
	return next, api.OK
}

// agreeTake is a Take held against the plain words.
func agreeTake(t *testing.T, s api.Server, x api.Packet) (api.Server, []api.Packet, api.Errno) {
	t.Helper()
	want := api.ErrArg
	var wantBack []api.Packet
	p := plainOf(s)
	if serverWords(s) && packetWords(s, x) {
		wantBack, want = p.take(copied(x))
	}
	if want != api.OK {
		untaken(t, "plainly", s, x, want)
		return s, nil, want
	}
	next, back := take(t, s, x)
	same(t, "Take", next, p.server())
	same(t, "back", back, wantBack)
	grows(t, s, next)
	return next, back, api.OK
}

// agreeCheck: may a server be, by the words as by Check?
func agreeCheck(t *testing.T, s api.Server) bool {
	t.Helper()
	may, e := serverWords(s), server.Check(s)
	if may != (e == api.OK) || !may && e != api.ErrArg {
		t.Fatal(may, e, s)
	}
	return may
}

// grows: no log loses a commit, no box a mail, and who is Out stays so. (P20.5)
func grows(t *testing.T, s, next api.Server) {
	t.Helper()
	at := plainOf(next)
	for _, l := range s.Logs {
		if len(at.logs[l.Group]) < len(l.Commits) {
			t.Fatal("a log has lost a commit")
		}
		same(t, "a log", at.logs[l.Group][:len(l.Commits)], l.Commits)
	}
	for _, b := range s.Boxes {
		now := at.boxes[b.Device]
		if now == nil || len(now.Mail) < len(b.Mail) || now.Done < b.Done || b.Out && (!now.Out || len(now.Mail) != len(b.Mail)) {
			t.Fatal("a box has lost something")
		}
		same(t, "a box", now.Mail[:len(b.Mail)], b.Mail)
	}
}
