package client_test

import (
	"maps"
	"slices"
	"testing"

	"phratry/api"
	"phratry/client"
	"phratry/group"
	"phratry/tree"
)

// dice is a row of numbers that look thrown, the same each time.
type dice uint64

func (x *dice) roll(n int) int {
	*x = *x*6364136223846793005 + 1442695040888963407
	return int(uint64(*x>>33) % uint64(n))
}

func (x *dice) one(l []int) int { return l[x.roll(len(l))] }

// box is a device at the hub: its mail, how many requests of it were done.
type box struct {
	mail []api.Mail
	done int
	out  bool
}

// hub is one server for all, as DOC.md says it, with the devices.
type hub struct {
	bench
	x       *dice
	logs    map[int][]api.Commit
	boxes   map[int]*box
	cards   map[int]api.Card
	devices map[int]api.Device
	told    map[api.Note]int // what was told by each note, its Term left out
	draws   int
}

func newHub(t *testing.T, x *dice) *hub {
	h := &hub{bench: newBench(t), x: x, logs: map[int][]api.Commit{}, boxes: map[int]*box{}}
	h.cards, h.devices, h.told = map[int]api.Card{}, map[int]api.Device{}, map[api.Note]int{}
	return h
}

func (h *hub) draw() int {
	h.draws += 4
	return h.draws
}

func (h *hub) numbers() []int { return slices.Sorted(maps.Keys(h.devices)) }

func (h *hub) post(device int, m api.Mail) {
	if b, there := h.boxes[device]; there && !b.out {
		b.mail = append(b.mail, m)
	}
}

func (h *hub) postUser(user int, m api.Mail) {
	for d := 8 * user; d < 8*user+8; d++ {
		h.post(d, m)
	}
}

// about are the members of two trees, rising.
func about(a, b api.Tree) []int {
	l := append(tree.Members(a), tree.Members(b)...)
	slices.Sort(l)
	return slices.Compact(l)
}

func (h *hub) decide(from int, c api.Commit) {
	log := h.logs[c.Group]
	if c.Epoch != len(log) {
		h.post(from, noMail(c.Group, c.Epoch))
		return
	}
	var before api.Tree
	if len(log) > 0 {
		before = log[len(log)-1].Next
	}
	h.logs[c.Group] = append(log, c)
	for _, member := range about(before, c.Next) {
		if c.Group >= 0 {
			h.postUser(member, commitMail(c))
			continue
		}
		if h.boxes[member] == nil {
			h.boxes[member] = &box{}
		}
		h.post(member, commitMail(c))
		if tree.Find(c.Next, member) < 0 {
			h.boxes[member].out = true
		}
	}
	if c.Group < 0 {
		h.cards[-1-c.Group] = api.Card{User: -1 - c.Group, Epoch: c.Epoch, Pub: c.Card}
	}
}

func (h *hub) ask(from int, r api.Request) {
	if r.Kind == api.RqOpen && h.boxes[from] == nil {
		h.boxes[from] = &box{}
		h.decide(from, r.Commit)
	}
	b := h.boxes[from]
	if b == nil || r.Seq < b.done {
		return
	}
	b.done++
	log := h.logs[r.N]
	switch r.Kind {
	case api.RqCommit:
		h.decide(from, r.Commit)
	case api.RqAsk:
		if card, there := h.cards[r.N]; there {
			h.post(from, cardMail(card))
		}
	case api.RqFace:
		if len(log) > 0 {
			h.post(from, faceMail(group.FaceOf(log[len(log)-1])))
		}
	case api.RqNote:
		log = h.logs[r.Note.Group]
		if last := log[len(log)-1]; last.Epoch == r.Note.Epoch && tree.Find(last.Next, from/8) >= 0 {
			for _, user := range tree.Members(last.Next) {
				h.postUser(user, noteMail(r.Note))
			}
		}
	}
}

// tick is what a device does by itself: so many of its requests, so much of its mail, and its work.
func (h *hub) tick(device, most int) {
	h.t.Helper()
	d := h.devices[device]
	for range min(most, len(d.Outbox)) {
		h.ask(device, copied(d.Outbox[0]))
		d = h.must(client.Sent(d))
	}
	if b := h.boxes[device]; b != nil {
		for range min(most, len(b.mail)-d.Cursor) {
			d = h.must(h.agreeTake(d, copied(b.mail[d.Cursor])))
		}
	}
	d = h.must(h.agreeWork(d))
	for _, g := range client.Owes(d) {
		if !waits(d, g) {
			h.t.Fatal("owes, and does not wait")
		}
	}
	h.devices[device] = d
}

// opens: a new user's first device.
func (h *hub) opens(device int) {
	if _, there := h.devices[device]; !there && h.logs[-1-device/8] == nil {
		h.devices[device] = h.must(client.Open(h.s, device, h.draw()))
	}
}

// some is a conversation, most often one that a device holds.
func (h *hub) some(d api.Device) int {
	if len(d.States) < 2 || h.x.roll(4) == 0 {
		return h.x.roll(4)
	}
	return d.States[1+h.x.roll(len(d.States)-1)].Group
}

// op is one that may go, or may not.
func (h *hub) op(d api.Device) client.Op {
	x, v := h.x, h.x.roll(4)
	own, g := d.Number/8*8+x.roll(4), h.some(d)
	if len(d.Cards) > 0 && x.roll(2) == 0 {
		v = d.Cards[x.roll(len(d.Cards))].User
	}
	return []client.Op{
		{Kind: api.StRevoke, A: own}, {Kind: api.StInvite, A: g, B: v}, {Kind: api.StInvite, A: g, B: v}, {Kind: api.StInvite, A: g, B: v},
		{Kind: api.StExpel, A: g, B: v}, {Kind: api.StRefresh, A: g}, {Kind: api.StAsk, A: v}, {Kind: api.StAsk, A: v},
		{Kind: api.StNote, A: g, B: x.roll(1000)}, {Kind: api.StNote, A: g, B: x.roll(1000)}, {Kind: api.StFace, A: g}, {Kind: api.StEnter, A: g},
	}[x.roll(12)]
}

func (h *hub) does(d api.Device) {
	h.t.Helper()
	op, draw := h.op(d), h.draw()
	next, e := h.agreeDo(d, op, draw)
	if e != api.OK {
		return
	}
	if op.Kind == api.StNote {
		n := next.Outbox[len(next.Outbox)-1].Note
		n.Term = 0
		if _, there := h.told[n]; there {
			h.t.Fatal("two notes of one number", n)
		}
		h.told[n] = op.B
	}
	h.devices[d.Number] = next
}

// links: a device lets in one that is not there yet, as the world does it.
func (h *hub) links(d api.Device) {
	h.t.Helper()
	e := d.Number/8*8 + h.x.roll(4)
	if _, there := h.devices[e]; there {
		return
	}
	next, pub := h.fresh(e, h.draw())
	if d, err := h.agreeDo(d, client.Op{Kind: api.StLink, A: e, Pub: pub}, h.draw()); err == api.OK {
		h.devices[d.Number], h.devices[e] = d, next
	}
}

func (h *hub) creates(d api.Device) {
	h.t.Helper()
	g := h.x.roll(4)
	if holds(d, g) || waits(d, g) {
		return
	}
	if d, e := h.agreeDo(d, client.Op{Kind: api.StCreate, A: g}, h.draw()); e == api.OK {
		h.devices[d.Number] = d
	}
}

func (h *hub) rejoins(d api.Device) {
	h.t.Helper()
	log, b := h.logs[-1-d.Number/8], h.boxes[d.Number]
	if b == nil || len(log) == 0 || d.In || d.Out || d.First != 0 {
		return
	}
	f := group.FaceOf(log[len(log)-1])
	draw := h.draw()
	if tree.Find(f.Tree, d.Number) < 0 || waits(d, f.Group) {
		return
	}
	h.devices[d.Number] = h.must(h.agreeRejoin(d, f, b.done, len(b.mail), draw))
}

// starts: four users with cards of each other, and a conversation of each, to which some come.
func (h *hub) starts() {
	h.t.Helper()
	for user := range 4 {
		h.opens(8*user + h.x.roll(2))
	}
	for range 3 {
		for _, n := range h.numbers() {
			h.tick(n, 9)
			for v := range 4 {
				h.doesIf(n, client.Op{Kind: api.StAsk, A: v})
			}
			h.doesIf(n, client.Op{Kind: api.StCreate, A: n / 8})
			h.doesIf(n, client.Op{Kind: api.StInvite, A: n / 8, B: h.x.roll(4)})
			h.links(h.devices[n])
			h.tick(n, 9)
		}
	}
}

// doesIf: a device does something, if that goes.
func (h *hub) doesIf(n int, op client.Op) {
	if d, e := client.Do(h.s, h.devices[n], op, h.draw()); e == api.OK {
		h.devices[n] = d
	}
}

func (h *hub) step() {
	h.t.Helper()
	d := h.devices[h.x.one(h.numbers())]
	switch h.x.roll(16) {
	case 0:
		h.opens(h.x.roll(32))
	case 1:
		h.links(d)
	case 2, 3:
		h.creates(d)
	case 4:
		if h.x.roll(8) == 0 {
			h.devices[d.Number] = api.Device{Number: d.Number}
		}
	case 5:
		h.rejoins(d)
	case 6, 7, 8, 9:
		h.does(d)
	default:
		h.tick(d.Number, 1+h.x.roll(4))
	}
}

// fits: whoever holds a group at an epoch has the same as all others, and as the log.
func (h *hub) fits() {
	h.t.Helper()
	seen := map[[2]int]api.Secrets{}
	for _, n := range h.numbers() {
		for _, st := range h.devices[n].States {
			at := [2]int{st.Group, st.Epoch}
			now, there := seen[at]
			if there && now != st.Now {
				h.t.Fatal("other secrets", n, at)
			}
			seen[at] = st.Now
			same(h.t, "tree", st.Tree, h.logs[st.Group][st.Epoch].Next)
		}
	}
	for _, n := range h.numbers() {
		got := map[api.Note]bool{}
		for _, m := range h.devices[n].Inbox {
			note := api.Note{Group: m.Group, Epoch: m.Epoch, By: m.By, N: m.N}
			if text, there := h.told[note]; !there || text != m.Text || got[note] {
				h.t.Fatal("a note", m, text, there, got[note])
			}
			got[note] = true
		}
	}
}

// rests: nothing waits, nothing is owed, all mail is taken, and all that is held is at the last epoch.
func (h *hub) rests() {
	h.t.Helper()
	for _, n := range h.numbers() {
		d := h.devices[n]
		b := h.boxes[n]
		if len(d.Waits) > 0 || len(d.Outbox) > 0 || len(client.Owes(d)) > 0 || b != nil && d.Cursor != len(b.mail) {
			h.t.Fatal("does not rest", n, tell(d))
		}
		for _, st := range d.States {
			same(h.t, "epoch", st.Epoch+1, len(h.logs[st.Group]))
		}
	}
}

// TestPlays: each call is as the document says it, read plainly; all go on together, and come to rest.
func TestPlays(t *testing.T) {
	x := dice(1)
	counts := map[string]int{}
	for range 70 {
		h := newHub(t, &x)
		h.starts()
		for range 150 {
			h.step()
		}
		h.fits()
		for range 40 {
			for _, n := range h.numbers() {
				h.tick(n, 1<<20)
			}
		}
		h.fits()
		h.rests()
		h.count(counts)
	}
	for _, what := range []string{"out", "in", "wiped", "notes", "external", "conversations", "members"} {
		if counts[what] < 20 {
			t.Error("too few:", what, counts)
		}
	}
}

// count tells what there was, for plays in which nothing happens show nothing.
func (h *hub) count(counts map[string]int) {
	for _, d := range h.devices {
		switch {
		case d.Out:
			counts["out"]++
		case d.In:
			counts["in"]++
		case d.First == 0:
			counts["wiped"]++
		}
		counts["notes"] += len(d.Inbox)
	}
	for g, log := range h.logs {
		if g >= 0 {
			counts["conversations"]++
			counts["members"] += max(0, len(tree.Members(log[len(log)-1].Next))-1)
		}
		for _, c := range log {
			if c.External {
				counts["external"]++
			}
		}
	}
}
