package server_test

import (
	"math"
	"reflect"
	"slices"
	"testing"

	"phratry/api"
	"phratry/server"
	"phratry/tree"
)

// dice tells the same row of numbers at every run.
type dice uint64

func (x *dice) roll(n int) int {
	*x = *x*6364136223846793005 + 1442695040888963407
	return int(uint64(*x) >> 33 % uint64(n))
}

func (x *dice) one(l ...int) int { return l[x.roll(len(l))] }

// fill gives anything to all fields of something.
func (x *dice) fill(v reflect.Value) {
	switch v.Kind() {
	case reflect.Struct:
		for i := range v.NumField() {
			x.fill(v.Field(i))
		}
	case reflect.Slice:
		v.Set(reflect.MakeSlice(v.Type(), x.roll(3), 4))
		for i := range v.Len() {
			x.fill(v.Index(i))
		}
	case reflect.Bool:
		v.SetBool(x.roll(2) == 0)
	case reflect.Uint8:
		v.SetUint(uint64(x.roll(7)))
	default:
		v.SetInt(int64(x.roll(100) - 20))
	}
}

func (x *dice) mail() (m api.Mail) {
	x.fill(reflect.ValueOf(&m).Elem())
	return m
}

// tree is one that may be, with members among the given ones, in any order; some have come and gone, and some have
// given new keys to those above them.
func (x *dice) tree(members []int) (t api.Tree) {
	for range 1 + x.roll(6) {
		m := x.one(members...)
		if next, _, e := tree.Add(t, api.Add{Member: m, Epoch: x.roll(3), Pub: 1 + x.roll(50)}); e == api.OK {
			t = next
		} else if next, e := tree.Remove(t, m); e == api.OK && x.roll(2) == 0 {
			t = next
		}
		if leaf := tree.Find(t, m); leaf >= 0 && x.roll(3) == 0 {
			nodes, _ := tree.Path(t, leaf)
			t, _ = tree.SetPath(t, leaf, 0, 1+x.roll(50), slices.Repeat([]int{60}, len(nodes)))
		}
	}
	if len(t.Nodes) == 0 {
		return grown(x.one(members...))
	}
	return t
}

// few are the users of whom there is much in these tests.
var few = []int{0, 1, 2, 3, 4, 5, 63}

// commit is any that may be decided.
func (x *dice) commit(group, epoch int) (c api.Commit) {
	x.fill(reflect.ValueOf(&c).Elem())
	members := few
	if group < 0 {
		first := 8 * (-1 - group)
		members = []int{first, first + 1, first + 2, first + 7}
	}
	c.Group, c.Epoch, c.Card, c.Next = group, epoch, 1+x.roll(100), x.tree(members)
	return c
}

func (x *dice) user() int { return x.one(few...) }

func (x *dice) device() int { return 8*x.user() + x.one(0, 1, 2, 7) }

func (x *dice) group() int {
	if x.roll(2) == 0 {
		return x.user()
	}
	return -1 - x.user()
}

// feed is something that may be told, to any server, with anything in its other fields.
func (x *dice) feed() (f api.Feed) {
	x.fill(reflect.ValueOf(&f).Elem())
	f.From = x.device()
	switch f.Kind = api.FeedKind(1 + x.roll(6)); f.Kind {
	case api.FdCommit:
		f.Commit = x.commit(x.group(), x.roll(4))
	case api.FdMail, api.FdAsk:
		f.To = x.user()
	case api.FdDevice:
		f.To = x.device()
	case api.FdFace:
		f.To = x.group()
	case api.FdNote:
		f.Note.Group, f.Note.Epoch = x.group(), x.roll(4)
	}
	return f
}

// feedTo is something that may be told to a server.
func (x *dice) feedTo(number int) api.Feed {
	for {
		if f := x.feed(); toldWords(number, f) {
			return f
		}
	}
}

// request is any that may be, of a device.
func (x *dice) request(device, seq int) (r api.Request) {
	x.fill(reflect.ValueOf(&r).Elem())
	r.Seq = seq
	switch r.Kind = api.RequestKind(1 + x.roll(5)); r.Kind {
	case api.RqOpen:
		r.Commit = x.commit(-1-device/8, 0)
	case api.RqCommit:
		r.Commit = x.commit(x.one(x.group(), -1-device/8), x.roll(4))
	case api.RqAsk:
		r.N = x.user()
	case api.RqFace:
		r.N = x.group()
	case api.RqNote:
		r.Note.Group, r.Note.Epoch = x.one(x.group(), -1-device/8), x.roll(3)
	}
	return r
}

// server is any that may be.
func (x *dice) server() api.Server {
	s := newServer(x.roll(4))
	for group := -64; group < 64; group++ {
		if groupHome(group) != s.Number || x.roll(5) > 0 && !slices.Contains(few, max(group, -1-group)) || x.roll(3) == 0 || len(s.Logs) == 16 {
			continue
		}
		l := api.Log{Group: group}
		for epoch := range 1 + x.roll(3) {
			l.Commits = append(l.Commits, x.commit(group, epoch))
		}
		s.Logs = append(s.Logs, l)
	}
	for _, user := range few {
		for device := 8 * user; device < 8*user+8 && user%4 == s.Number; device++ {
			b := api.Box{Device: device, Out: x.roll(4) == 0, Done: x.one(0, 1, 2, 7, most-1, most)}
			for range x.roll(3) {
				b.Mail = append(b.Mail, x.mail())
			}
			if x.roll(3) > 0 {
				s.Boxes = append(s.Boxes, b)
			}
		}
		if user%4 == s.Number && x.roll(3) > 0 {
			s.Cards = append(s.Cards, api.Card{User: user, Epoch: x.one(0, 1, 7, math.MaxInt), Pub: x.one(1, 2, 9, math.MaxInt)})
		}
	}
	for peer := range 4 {
		if peer != s.Number && x.roll(3) > 0 {
			s.Links = append(s.Links, x.link(peer))
		}
	}
	return s
}

// link is any that may be.
func (x *dice) link(peer int) api.Link {
	l := api.Link{Peer: peer, Next: x.one(0, 1, 2, 7, most-1, most), Expect: x.one(0, 1, 5, most-3, most-1, most)}
	for range min(l.Next, x.roll(3)) {
		l.Queue = append(l.Queue, x.feed())
	}
	for seq := l.Expect; len(l.Early) < x.roll(5); {
		seq += x.one(1, 1, 1, 2, 3, pending, pending+1)
		if seq >= most {
			break
		}
		l.Early = append(l.Early, api.Early{Seq: seq, Feed: x.feed()})
	}
	return l
}

// packet is one that comes to a server, most of them about where its link stands.
func (x *dice) packet(s api.Server) api.Packet {
	p := api.Packet{From: (s.Number + 1 + x.roll(3)) % 4, To: s.Number, Ack: x.roll(4) == 0, Feed: x.feedTo(s.Number)}
	l := of(s, p.From)
	if p.Ack {
		p.Seq = max(0, l.Next-x.roll(4)+x.roll(2))
	} else {
		p.Seq = max(0, l.Expect+x.one(0, 0, 0, 0, 0, 1, 2, -1, pending, pending+1))
	}
	return p
}

// deviceOf is one whose home is that server, most often one with a box.
func (x *dice) deviceOf(s api.Server) int {
	if len(s.Boxes) > 0 && x.roll(4) > 0 {
		return s.Boxes[x.roll(len(s.Boxes))].Device
	}
	for {
		if d := x.device(); d/8%4 == s.Number || s.Number < 0 || s.Number > 3 {
			return d
		}
	}
}

func doneOf(s api.Server, device int) int {
	for _, b := range s.Boxes {
		if b.Device == device {
			return b.Done
		}
	}
	return 0
}

// TestP205Any holds Ask and Take against the plain words at any servers that may be.
func TestP205Any(t *testing.T) {
	x := dice(205)
	counts := map[api.Errno]int{}
	for range 600 {
		s := x.server()
		if !agreeCheck(t, s) {
			t.Fatal(s)
		}
		for range 4 {
			device := x.deviceOf(s)
			r := x.request(device, max(0, doneOf(s, device)+x.one(0, 0, 0, 1, -1)))
			_, e := agreeAsk(t, s, device, r)
			counts[e]++
			_, _, e = agreeTake(t, s, x.packet(s))
			counts[e]++
		}
	}
	for _, e := range []api.Errno{api.OK, api.ErrArg, api.ErrLimit} {
		if counts[e] < 100 {
			t.Error(e, counts)
		}
	}
}

// odd changes some of the numbers in something, and the lengths of some lists.
func (x *dice) odd(v reflect.Value, thin int) {
	switch v.Kind() {
	case reflect.Struct:
		for i := range v.NumField() {
			x.odd(v.Field(i), thin)
		}
	case reflect.Slice:
		if x.roll(thin) == 0 {
			v.Set(v.Slice(0, x.roll(v.Len()+1)))
		}
		if x.roll(thin) == 0 {
			v.Set(reflect.Append(v, reflect.Zero(v.Type().Elem())))
			x.odd(v.Index(v.Len()-1), 2)
		}
		for i := range v.Len() {
			x.odd(v.Index(i), thin)
		}
	case reflect.Int:
		if x.roll(thin) == 0 {
			v.SetInt(v.Int() + int64(x.one(math.MinInt, -most, -64, -4, -1, 1, 4, 64, most, math.MaxInt)))
		}
	case reflect.Uint8:
		if x.roll(thin) == 0 {
			v.SetUint(uint64(x.one(0, 1, 6, 7, 255)))
		}
	}
}

// TestP201Any holds all calls against the words at servers, requests and packets of which some numbers and lengths are
// anything. (R1 too: none panics.)
func TestP201Any(t *testing.T) {
	x := dice(201)
	good, bad, asked, taken := 0, 0, 0, 0
	for range 4000 {
		s := x.server()
		x.odd(reflect.ValueOf(&s).Elem(), x.one(30, 300, 1000, 1<<20, 1<<20))
		device := x.deviceOf(s)
		r, p := x.request(device, doneOf(s, device)), x.packetOf(s)
		x.odd(reflect.ValueOf(&device).Elem(), 10)
		x.odd(reflect.ValueOf(&r).Elem(), x.one(10, 100, 1000))
		x.odd(reflect.ValueOf(&p).Elem(), x.one(10, 100, 1000))
		if agreeCheck(t, s) {
			good++
		} else {
			bad++
		}
		if _, e := agreeAsk(t, s, device, r); e != api.ErrArg {
			asked++
		}
		if _, _, e := agreeTake(t, s, p); e != api.ErrArg {
			taken++
		}
		anyMail(t, s, device)
	}
	if good < 500 || bad < 500 || asked < 300 || taken < 300 {
		t.Error(good, bad, asked, taken)
	}
}

// packetOf is a packet to a server of any number.
func (x *dice) packetOf(s api.Server) api.Packet {
	if s.Number < 0 || s.Number > 3 {
		s.Number = 0
	}
	return x.packet(s)
}

// anyMail holds Tick and Mail against the words.
func anyMail(t *testing.T, s api.Server, device int) {
	t.Helper()
	sent, e := server.Tick(s)
	if may := serverWords(s); may != (e == api.OK) || !may && (e != api.ErrArg || len(sent) != 0) {
		t.Fatal("Tick", may, e)
	}
	var want []api.Packet
	wantMail, wantE := []api.Mail(nil), api.ErrArg
	if serverWords(s) {
		p := plainOf(s)
		for _, peer := range rising(p.links) {
			for _, n := range rising(p.links[peer].out) {
				want = append(want, data(s.Number, peer, n, p.links[peer].out[n]))
			}
		}
		wantE = api.ErrGone
		if b := p.boxes[device]; b != nil {
			wantMail, wantE = b.Mail, api.OK
		}
	}
	same(t, "Tick", sent, want)
	got, e := server.Mail(s, device, 0)
	same(t, "Mail", got, wantMail)
	if e != wantE {
		t.Fatal("Mail", e, wantE)
	}
}

// sent is a commit that a device has sent, told apart from all others by its mark (Own).
type sent struct{ device, group, epoch, mark int }

// world is four servers, the packets on their way between them, and the commits that were sent.
type world struct {
	t       *testing.T
	x       *dice
	servers [4]api.Server
	way     []api.Packet
	sent    []sent
}

func newWorld(t *testing.T, x *dice) *world {
	w := &world{t: t, x: x}
	for number := range w.servers {
		s, e := server.New(number)
		if e != api.OK {
			t.Fatal(e)
		}
		w.servers[number] = s
	}
	return w
}

// epochs is how many commits a group's log has.
func (w *world) epochs(group int) int {
	return len(w.log(group))
}

func (w *world) log(group int) []api.Commit {
	for _, l := range w.servers[groupHome(group)].Logs {
		if l.Group == group {
			return l.Commits
		}
	}
	return nil
}

// asks: a device asks for something, most often the next thing; it is asked for again now and then.
func (w *world) asks(device int) {
	w.t.Helper()
	s := w.servers[device/8%4]
	r := w.x.request(device, max(0, doneOf(s, device)+w.x.one(0, 0, 0, 0, 1, -1, -2)))
	if len(s.Boxes) == 0 || w.x.roll(9) == 0 {
		r = opens(w.x.commit(-1-device/8, 0))
	}
	if r.Kind == api.RqCommit {
		r.Commit.Epoch = max(0, w.epochs(r.Commit.Group)+w.x.one(0, 0, 0, -1, 1))
	}
	if r.Kind == api.RqNote {
		r.Note.Epoch = w.epochs(r.Note.Group) - 1
	}
	r.Commit.Own = 1000 + len(w.sent)
	before := doneOf(s, device)
	b := plainOf(s).boxes[device]
	next, e := agreeAsk(w.t, s, device, r)
	if e != api.OK {
		w.t.Fatal(e)
	}
	opened := r.Kind == api.RqOpen && b == nil && doneOf(next, device) == 1
	if opened || r.Kind == api.RqCommit && b != nil && !b.Out && doneOf(next, device) > before {
		w.sent = append(w.sent, sent{device, r.Commit.Group, r.Commit.Epoch, r.Commit.Own})
	}
	w.servers[s.Number] = next
	w.again(device, r, before)
}

// again: a request that was done may come as often as it likes.
func (w *world) again(device int, r api.Request, before int) {
	w.t.Helper()
	s := w.servers[device/8%4]
	if now := doneOf(s, device); now > before && r.Seq < now {
		for range 2 {
			same(w.t, "once more", ask(w.t, s, device, r), s)
		}
	}
}

func (w *world) tick(number int) {
	p, e := server.Tick(w.servers[number])
	if e != api.OK {
		w.t.Fatal(e)
	}
	w.way = append(w.way, p...)
}

func (w *world) take(p api.Packet) {
	w.t.Helper()
	next, back, e := agreeTake(w.t, w.servers[p.To], p)
	if e != api.OK {
		w.t.Fatal(e)
	}
	w.servers[p.To], w.way = next, append(w.way, back...)
}

func (w *world) step(lost int) {
	w.t.Helper()
	switch x := w.x; x.roll(8) {
	case 0, 1, 2:
		w.asks(x.device())
	case 3:
		if len(w.way) < 100 {
			w.tick(x.roll(4))
		}
	default:
		if len(w.way) == 0 {
			return
		}
		at := x.roll(len(w.way))
		p := w.way[at]
		if x.roll(5) > 0 {
			w.way = slices.Delete(w.way, at, at+1)
		}
		if x.roll(3) >= lost {
			w.take(p)
		}
	}
}

// settle: all that is on its way is lost; then ticks and packets in order, till nothing is told any more.
func (w *world) settle() {
	w.t.Helper()
	w.way = nil
	for {
		for number := range 4 {
			w.tick(number)
		}
		if len(w.way) == 0 {
			return
		}
		for len(w.way) > 0 {
			p := w.way[0]
			w.way = w.way[1:]
			w.take(p)
		}
	}
}

// decided: of each group and epoch just one commit was taken, and whoever sent another one was told no.
func (w *world) decided(counts map[string]int) {
	w.t.Helper()
	no := map[sent]int{}
	taken := map[int]bool{}
	for _, c := range w.sent {
		if l := w.log(c.group); c.epoch < len(l) && l[c.epoch].Own == c.mark {
			taken[c.mark] = true
			counts["taken"]++
			continue
		}
		no[sent{c.device, c.group, c.epoch, 0}]++
		counts["no"]++
	}
	commits := 0
	for _, s := range w.servers {
		for _, l := range s.Logs {
			commits += len(l.Commits)
		}
		for _, b := range s.Boxes {
			w.toldNo(b, no)
		}
	}
	if commits != len(taken) {
		w.t.Fatal(commits, len(taken))
	}
}

// toldNo: has a device been told no of just those of its commits that were not taken?
func (w *world) toldNo(b api.Box, no map[sent]int) {
	w.t.Helper()
	got := map[sent]int{}
	for _, m := range b.Mail {
		if m.Kind == api.MlNo {
			got[sent{b.Device, m.Group, m.Epoch, 0}]++
		}
	}
	for c, n := range no {
		if c.device == b.Device && (got[c] > n || got[c] < n && !b.Out) {
			w.t.Fatal(c, got[c], n)
		}
	}
	for c, n := range got {
		if n > no[c] {
			w.t.Fatal(c, n, no[c])
		}
	}
}

// TestP205Plays: four servers go on together; of the packets any are taken, copied and lost, in any order.
func TestP205Plays(t *testing.T) {
	x := dice(2050)
	counts := map[string]int{}
	for range 60 {
		w := newWorld(t, &x)
		lost := x.roll(3)
		for range 250 {
			w.step(lost)
		}
		w.settle()
		w.decided(counts)
		for _, s := range w.servers {
			for _, b := range s.Boxes {
				counts["mail"] += len(b.Mail)
				if b.Out {
					counts["out"]++
				}
			}
		}
	}
	for _, what := range []string{"taken", "no", "mail", "out"} {
		if counts[what] < 100 {
			t.Error("too few:", what, counts)
		}
	}
}

// TestP205Rivals: two commits of one epoch, asked for here and told by two others, in each order: one is taken.
func TestP205Rivals(t *testing.T) {
	senders := []int{8, 0, 16}
	for _, order := range [][]int{{0, 1, 2}, {0, 2, 1}, {1, 0, 2}, {1, 2, 0}, {2, 0, 1}, {2, 1, 0}} {
		for _, group := range []int{1, -2, 9, -10} {
			s := home()
			epoch := 2
			if group == 9 || group == -10 {
				epoch = 0
			}
			member := map[int]int{1: 1, 9: 1, -2: 8, -10: 72}[group]
			for _, i := range order {
				c := commit(group, epoch, member)
				c.Own = 500 + i
				if i == 0 {
					s = ask(t, s, 8, number(3, commits(c)))
				} else {
					s = told(t, s, senders[i]/8, toldCommit(senders[i], c))
				}
			}
			l := plainOf(s).logs[group]
			if len(l) != epoch+1 || l[epoch].Own != 500+order[0] {
				t.Error(order, group, l)
			}
			for _, i := range order[1:] {
				var mail []api.Mail
				if i == 0 {
					mail = s.Boxes[0].Mail
				}
				for _, f := range of(s, senders[i]/8).Queue {
					if i > 0 && f.Kind == api.FdDevice && f.To == senders[i] {
						mail = append(mail, f.Mail)
					}
				}
				last := mail[len(mail)-1]
				same(t, "no", last, noMail(group, epoch))
			}
		}
	}
}
