package client_test

import (
	"math"
	"testing"

	"phratry/api"
	"phratry/client"
	"phratry/group"
)

// owing is the device 8 of a house with the conversations 2, 5 and 7, of which it owes all, for it has revoked 10 since.
func (h house) owing() api.Device {
	h.t.Helper()
	d := h.a
	for _, g := range []int{7, 2} {
		d = h.do(d, client.Op{Kind: api.StCreate, A: g}, 60+g)
		d = h.told(d, lastOf(d))
	}
	d = h.do(d, client.Op{Kind: api.StRevoke, A: 10}, 70)
	return h.sent(h.told(d, lastOf(d)))
}

// TestP196Owes: the conversations in which its user's leaf is behind its account, in their order.
func TestP196Owes(t *testing.T) {
	h := newHouse(t)
	d := h.owing()
	same(t, "all", client.Owes(d), []int{2, 5, 7})
	// Those in which it waits are owed, too.
	busy := h.do(d, client.Op{Kind: api.StRefresh, A: 5}, 71)
	same(t, "busy", client.Owes(busy), []int{2, 5, 7})
	same(t, "done", client.Owes(h.told(busy, lastOf(busy))), []int{2, 7})
	// The house's devices have linked 10 behind the conversation's last commit; the user 2 has done nothing.
	same(t, "8", client.Owes(h.a), []int{5})
	same(t, "9", client.Owes(h.b), []int{5})
	same(t, "10", client.Owes(h.in()), []int{})
	same(t, "16", client.Owes(h.o), []int{})
	for what, c := range map[string]struct {
		by   func(d *api.Device)
		want []int
	}{
		"not in":          {func(d *api.Device) { d.In = false }, nil},
		"out":             {func(d *api.Device) { d.Out = true }, nil},
		"may not be":      {func(d *api.Device) { d.Seq = -1 }, nil},
		"another user":    {func(d *api.Device) { d.Number = 16 }, nil},
		"as new":          {func(d *api.Device) { d.States[0].Epoch = 2 }, []int{5}},
		"newer leaves":    {func(d *api.Device) { d.States[0].Epoch = 1 }, []int{}},
		"a great epoch":   {func(d *api.Device) { d.States[0].Epoch = math.MaxInt }, []int{2, 5, 7}},
		"a low epoch":     {func(d *api.Device) { d.States[0].Epoch = math.MinInt }, []int{}},
		"not in the tree": {func(d *api.Device) { d.States[2].Tree.Nodes[0].Member = 9 }, []int{2, 7}},
		"no tree":         {func(d *api.Device) { d.States[1].Tree = api.Tree{} }, []int{5, 7}},
		"two of a group": {func(d *api.Device) {
			st := copied(d.States[1])
			st.Tree.Nodes[0].Epoch = 9
			d.States = append([]api.State{d.States[0], st}, d.States[1:]...)
		}, []int{5, 7}},
		"two of a group, the first one owed": {func(d *api.Device) { d.States = append(d.States, d.States[1]) }, []int{2, 5, 7}},
		"another order":                      {func(d *api.Device) { d.States[1], d.States[3] = d.States[3], d.States[1] }, []int{7, 5, 2}},
		"a foreign account":                  {func(d *api.Device) { d.States[1].Group = -9 }, []int{5, 7}},
	} {
		x := copied(d)
		c.by(&x)
		same(t, what, client.Owes(x), c.want)
	}
	same(t, "nothing", client.Owes(api.Device{}), []int{})
}

// TestP196Work: a refresh of each, one after the other, but for those in which it waits.
func TestP196Work(t *testing.T) {
	h := newHouse(t)
	d := h.owing()
	next := h.must(h.agreeWork(d))
	same(t, "waits", []bool{waits(next, 2), waits(next, 5), waits(next, 7), waits(next, -2)}, []bool{true, true, true, false})
	st := d
	for i, g := range []int{2, 5, 7} {
		before := held(t, d, g)
		s, c, e := group.Commit(h.s, before, h.plan(d, g, before.Epoch+1, nil, nil))
		h.composed(st, h.do(st, client.Op{Kind: api.StRefresh, A: g}, 5), s, c, e)
		st = h.do(st, client.Op{Kind: api.StRefresh, A: g}, 5)
		same(t, "request", next.Outbox[i], api.Request{Kind: api.RqCommit, Seq: d.Seq + i, Commit: c})
	}
	same(t, "Work", next, st)
	// A second time it waits, and makes nothing.
	many := h.s.Len()
	same(t, "again", h.must(h.agreeWork(next)), next)
	same(t, "terms", h.s.Len(), many)
	// It goes on with what is left over.
	busy := h.do(d, client.Op{Kind: api.StExpel, A: 5, B: 2}, 71)
	same(t, "one busy", len(h.must(h.agreeWork(busy)).Waits), 3)
	same(t, "requests", len(h.must(h.agreeWork(busy)).Outbox), 3)
	// One that waits in its account works as well.
	_, pub := h.fresh(11, 72)
	busy = h.do(d, client.Op{Kind: api.StLink, A: 11, Pub: pub}, 73)
	same(t, "account busy", len(h.must(h.agreeWork(busy)).Waits), 4)
	// When they are taken nothing is owed.
	for _, p := range next.Waits {
		next = h.told(next, p.Commit)
	}
	same(t, "at rest", []int{len(client.Owes(next)), len(next.Waits)}, []int{0, 0})
	same(t, "works no more", h.must(h.agreeWork(next)), next)
}

// TestP196WorkNothing: nothing is owed.
func TestP196WorkNothing(t *testing.T) {
	h := newHouse(t)
	for what, d := range map[string]api.Device{
		"16": h.o, "10": h.in(), "not in": h.late, "wiped": {Number: 9}, "out": {Number: 9, Out: true},
		"out, but not emptied": set(h.a, func(d *api.Device) { d.Out = true }), "not in, but not emptied": set(h.a, func(d *api.Device) { d.In = false }),
		"with a request": {Number: 3, Outbox: []api.Request{{Kind: api.RqAsk}}},
	} {
		many := h.s.Len()
		same(t, what, h.must(client.Work(h.s, d)), d)
		same(t, what, h.s.Len(), many)
	}
}

// TestP196Wrong: an error in one of them, and nothing is done of any.
func TestP196Wrong(t *testing.T) {
	h := newHouse(t)
	d := h.owing()
	for what, by := range map[string]func(d *api.Device){
		"the first one's Init": func(d *api.Device) { d.States[1].Now.Init = 0 }, "the last one's Init": func(d *api.Device) { d.States[3].Now.Init = 1 << 19 },
		"the last one's Leaf": func(d *api.Device) { d.States[3].Leaf = 1 }, "a key": func(d *api.Device) { d.States[2].Keys[0].Secret = -1 },
		"a public key": func(d *api.Device) { d.States[2].Tree.Nodes[2].Pub = 1 << 19 }, "Export": func(d *api.Device) { d.States[0].Now.Export = 0 },
		"an epoch": func(d *api.Device) { d.States[3].Epoch = -1 }, "a Member": func(d *api.Device) { d.States[2].Member, d.States[2].Leaf = 2, 1 },
	} {
		bad := copied(d)
		by(&bad)
		refused(t, h.s, what, api.ErrArg, func() (api.Device, api.Errno) { return client.Work(h.s, bad) })
	}
	// What it waits for it does not touch.
	bad := h.do(d, client.Op{Kind: api.StRefresh, A: 5}, 71)
	bad.States[2].Now.Init = 0
	same(t, "waits", len(h.must(client.Work(h.s, bad)).Waits), 3)
	for _, s := range lost() {
		for _, d := range []api.Device{d, {}, {Number: -1}} {
			refused(t, s, "no store", api.ErrNil, func() (api.Device, api.Errno) { return client.Work(s, d) })
		}
	}
}

// TestP197Follows: the number stays, whatever is done; and one that is out asks for nothing any more.
func TestP197Follows(t *testing.T) {
	h := newHouse(t)
	d, ops := h.ops()
	for _, op := range ops {
		next := h.do(d, op, 100)
		same(t, "Number", next.Number, 8)
		same(t, "Number", h.must(client.Sent(next)).Number, 8)
		for _, p := range next.Waits {
			same(t, "state", held(t, h.told(next, p.Commit), p.Commit.Group), p.State)
		}
		out := h.told(next, lastOf(h.do(h.b, client.Op{Kind: api.StRevoke, A: 8}, 101)))
		same(t, "out", []any{out.Number, out.Out, out.In, len(out.Outbox), len(out.Waits), len(client.Owes(out))}, []any{8, true, false, 0, 0, 0})
		for _, op := range ops {
			h.refusedDo(out, "out", op, api.ErrOut)
		}
		same(t, "Work", h.must(client.Work(h.s, out)), out)
		refused(t, h.s, "Rejoin", api.ErrOut, func() (api.Device, api.Errno) {
			return client.Rejoin(h.s, out, group.FaceOf(h.link), 0, 0, 0)
		})
	}
}
