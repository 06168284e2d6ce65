package client_test

import (
	"math"
	"slices"
	"testing"

	"phratry/account"
	"phratry/api"
	"phratry/chain"
	"phratry/client"
	"phratry/group"
)

// plan is of a commit in a conversation, as DOC.md says it.
func (b bench) plan(d api.Device, g, epoch int, adds []api.Add, removes []int) group.Plan {
	b.t.Helper()
	user := d.Number / 8
	home := held(b.t, d, -1-user)
	digest, e1 := account.Digest(b.s, adds, removes)
	seed, e2 := account.Seed(b.s, home.Now.Export, g, epoch, d.Number, digest)
	own, e3 := account.Own(b.s, home.Now.Export)
	same(b.t, "plan", []api.Errno{e1, e2, e3}, make([]api.Errno, 3))
	return group.Plan{By: d.Number, Member: user, KeyEpoch: home.Epoch, Seed: seed, Own: own, Adds: adds, Removes: removes}
}

// composed: has a device made this commit, and nothing else?
func (b bench) composed(before, behind api.Device, st api.State, c api.Commit, e api.Errno) {
	b.t.Helper()
	same(b.t, "group's", e, api.OK)
	if c.Group < 0 {
		c.Card = b.card(st.Now.Export)
	}
	want := copied(before)
	want.Waits = append(want.Waits, api.Pending{Commit: c, State: st})
	slices.SortStableFunc(want.Waits, func(x, y api.Pending) int { return x.Commit.Group - y.Commit.Group })
	want.Outbox = append(want.Outbox, api.Request{Kind: api.RqCommit, Seq: want.Seq, Commit: c})
	want.Seq++
	same(b.t, "device", behind, want)
}

func TestP192Link(t *testing.T) {
	h := newHouse(t)
	for n, e := range []int{11, 12, 15} {
		_, pub := h.fresh(e, 20+n)
		d := h.do(h.a, client.Op{Kind: api.StLink, A: e, B: 77, Pub: pub}, 30+n)
		st, c, err := group.Commit(h.s, held(t, h.a, -2), group.Plan{By: 8, Member: 8, Seed: h.rand(30 + n), Adds: []api.Add{{Member: e, Pub: pub}}})
		h.composed(h.a, d, st, c, err)
	}
	// Any term may be the public key.
	h.do(h.a, client.Op{Kind: api.StLink, A: 13, Pub: 1}, 40)
}

func TestP192LinkRefused(t *testing.T) {
	h := newHouse(t)
	_, pub := h.fresh(11, 20)
	for what, op := range map[string]client.Op{
		"no pub": {A: 11}, "a low pub": {A: 11, Pub: -1}, "a far pub": {A: 11, Pub: h.s.Len() + 1},
		"of another user": {A: 16, Pub: pub}, "of the user before": {A: 7, Pub: pub}, "below 0": {A: -8, Pub: pub},
		"itself": {A: 8, Pub: pub}, "in already": {A: 9, Pub: pub}, "far": {A: math.MaxInt, Pub: pub}, "low": {A: math.MinInt, Pub: pub},
	} {
		op.Kind = api.StLink
		h.refusedDo(h.a, what, op, api.ErrArg)
	}
	// Of the user 0 a number below 0 is none of its own.
	zero := h.opened(0, 21)
	for _, e := range []int{-1, -7, -8} {
		h.refusedDo(zero, "below 0", client.Op{Kind: api.StLink, A: e, Pub: pub}, api.ErrArg)
	}
	busy := h.do(h.a, client.Op{Kind: api.StLink, A: 11, Pub: pub}, 22)
	h.refusedDo(busy, "busy", client.Op{Kind: api.StLink, A: 12, Pub: pub}, api.ErrBusy)
	h.refusedDo(busy, "an argument ahead of that", client.Op{Kind: api.StLink, A: 9, Pub: pub}, api.ErrArg)
	// It does not matter that it waits elsewhere.
	h.do(h.do(h.a, client.Op{Kind: api.StRefresh, A: 5}, 0), client.Op{Kind: api.StLink, A: 11, Pub: pub}, 23)
}

// TestP192LinkFull: an account has eight devices. (Those that are not its user's are there by hand alone.)
func TestP192LinkFull(t *testing.T) {
	h := newHouse(t)
	d := h.opened(24, 50)
	for e := 25; e < 31; e++ {
		_, pub := h.fresh(e, 60+e)
		d = h.do(d, client.Op{Kind: api.StLink, A: e, Pub: pub}, 100+e)
		d = h.told(d, lastOf(d))
	}
	st, c, e := group.Commit(h.s, held(t, d, -4), group.Plan{By: 24, Member: 24, Seed: h.rand(70), Adds: []api.Add{{Member: 99, Pub: h.pubOf(1)}}})
	same(t, "by hand", e, api.OK)
	d.Waits = []api.Pending{{Commit: c, State: st}}
	full := h.told(d, c)
	_, pub := h.fresh(31, 80)
	link := client.Op{Kind: api.StLink, A: 31, Pub: pub}
	h.refusedDo(full, "full", link, api.ErrLimit)
	full.Waits = d.Waits
	h.refusedDo(full, "busy ahead of that", link, api.ErrBusy)
	full.Waits = nil
	less := h.do(full, client.Op{Kind: api.StRevoke, A: 99}, 81)
	h.do(h.told(less, lastOf(less)), link, 82)
}

func TestP192Revoke(t *testing.T) {
	h := newHouse(t)
	for n, e := range []int{9, 10} {
		d := h.do(h.a, client.Op{Kind: api.StRevoke, A: e, B: 77, Pub: -1}, 30+n)
		st, c, err := group.Commit(h.s, held(t, h.a, -2), group.Plan{By: 8, Member: 8, Seed: h.rand(30 + n), Removes: []int{e}})
		h.composed(h.a, d, st, c, err)
	}
	d := h.do(h.b, client.Op{Kind: api.StRevoke, A: 8}, 40)
	for what, c := range map[string]struct {
		d    api.Device
		e    int
		want api.Errno
	}{
		"itself": {h.a, 8, api.ErrRule}, "itself, busy": {d, 9, api.ErrRule}, "not in": {h.a, 11, api.ErrGone},
		"another user's": {h.a, 16, api.ErrGone}, "below 0": {h.a, -1, api.ErrGone}, "not in, busy": {d, 11, api.ErrGone},
		"busy": {d, 10, api.ErrBusy}, "far": {h.a, math.MaxInt, api.ErrGone},
	} {
		h.refusedDo(c.d, what, client.Op{Kind: api.StRevoke, A: c.e}, c.want)
	}
}

func TestP192Create(t *testing.T) {
	h := newHouse(t)
	for _, g := range []int{0, 4, 6, 63} {
		d := h.do(h.a, client.Op{Kind: api.StCreate, A: g, B: 77}, 30)
		st, c, err := group.Create(h.s, g, h.plan(h.a, g, 0, nil, nil))
		h.composed(h.a, d, st, c, err)
		h.refusedDo(d, "waited for", client.Op{Kind: api.StCreate, A: g}, api.ErrArg)
		// Two at a time.
		both := h.do(d, client.Op{Kind: api.StCreate, A: 7}, 31)
		st, c, err = group.Create(h.s, 7, h.plan(h.a, 7, 0, nil, nil))
		h.composed(d, both, st, c, err)
	}
	for _, g := range []int{-1, -2, 64, 5, math.MinInt, math.MaxInt} {
		h.refusedDo(h.a, "create", client.Op{Kind: api.StCreate, A: g}, api.ErrArg)
	}
}

func TestP192Invite(t *testing.T) {
	h := newHouse(t)
	h.a = h.take(h.a, cardMail(api.Card{User: 7, Epoch: 3, Pub: h.pubOf(h.rand(90))}))
	d := h.do(h.a, client.Op{Kind: api.StInvite, A: 5, B: 7}, 30)
	adds := []api.Add{{Member: 7, Epoch: 3, Pub: h.pubOf(h.rand(90))}}
	st, c, e := group.Commit(h.s, held(t, h.a, 5), h.plan(h.a, 5, 2, adds, nil))
	h.composed(h.a, d, st, c, e)
	busy := h.do(h.a, client.Op{Kind: api.StRefresh, A: 5}, 31)
	for what, c := range map[string]struct {
		d    api.Device
		g, v int
		want api.Errno
	}{
		"another group": {h.a, 4, 7, api.ErrGone}, "its account": {h.a, -2, 7, api.ErrGone}, "far": {h.a, math.MaxInt, 7, api.ErrGone},
		"busy": {busy, 5, 7, api.ErrBusy}, "busy, in": {busy, 5, 2, api.ErrBusy}, "in": {h.a, 5, 2, api.ErrTwice}, "itself": {h.a, 5, 1, api.ErrTwice},
		"no card": {h.a, 5, 8, api.ErrKey}, "below 0": {h.a, 5, -1, api.ErrKey}, "of 10, which has none": {h.in(), 5, 7, api.ErrGone},
		"far user": {h.a, 5, math.MaxInt, api.ErrKey},
	} {
		h.refusedDo(c.d, what, client.Op{Kind: api.StInvite, A: c.g, B: c.v}, c.want)
	}
}

// TestP192InviteFull: eight are in.
func TestP192InviteFull(t *testing.T) {
	h := newHouse(t)
	d := h.a
	for v := 20; v <= 26; v++ {
		d = h.take(d, cardMail(api.Card{User: v, Pub: h.pubOf(h.rand(200 + v))}))
	}
	for v := 20; v < 26; v++ {
		d = h.do(d, client.Op{Kind: api.StInvite, A: 5, B: v}, 0)
		d = h.told(d, lastOf(d))
	}
	invite := client.Op{Kind: api.StInvite, A: 5, B: 26}
	h.refusedDo(d, "full", invite, api.ErrLimit)
	h.refusedDo(d, "in", client.Op{Kind: api.StInvite, A: 5, B: 25}, api.ErrTwice)
	h.refusedDo(d, "no card", client.Op{Kind: api.StInvite, A: 5, B: 27}, api.ErrKey)
	d = h.do(d, client.Op{Kind: api.StExpel, A: 5, B: 22}, 0)
	h.do(h.told(d, lastOf(d)), invite, 0)
}

func TestP192Expel(t *testing.T) {
	h := newHouse(t)
	d := h.do(h.b, client.Op{Kind: api.StExpel, A: 5, B: 2}, 30)
	st, c, e := group.Commit(h.s, held(t, h.b, 5), h.plan(h.b, 5, 2, nil, []int{2}))
	h.composed(h.b, d, st, c, e)
	busy := h.do(h.a, client.Op{Kind: api.StRefresh, A: 5}, 31)
	for what, c := range map[string]struct {
		d    api.Device
		g, v int
		want api.Errno
	}{
		"another group": {h.a, 4, 2, api.ErrGone}, "its account": {h.a, -2, 9, api.ErrGone}, "busy": {busy, 5, 2, api.ErrBusy},
		"busy, itself": {busy, 5, 1, api.ErrBusy}, "itself": {h.a, 5, 1, api.ErrRule}, "not in": {h.a, 5, 3, api.ErrGone},
		"below 0": {h.a, 5, -1, api.ErrGone}, "a device": {h.a, 5, 16, api.ErrGone},
	} {
		h.refusedDo(c.d, what, client.Op{Kind: api.StExpel, A: c.g, B: c.v}, c.want)
	}
}

func TestP192Refresh(t *testing.T) {
	h := newHouse(t)
	for _, d := range []api.Device{h.a, h.b, h.o} {
		next := h.do(d, client.Op{Kind: api.StRefresh, A: 5, B: 3}, 30)
		st, c, e := group.Commit(h.s, held(t, d, 5), h.plan(d, 5, 2, nil, nil))
		h.composed(d, next, st, c, e)
		h.refusedDo(next, "busy", client.Op{Kind: api.StRefresh, A: 5}, api.ErrBusy)
	}
	for _, g := range []int{4, -2, -1, 64, math.MaxInt} {
		h.refusedDo(h.a, "refresh", client.Op{Kind: api.StRefresh, A: g}, api.ErrGone)
	}
}

// TestP192Ask: ask and face are requests alone; the numbers at their edges.
func TestP192Ask(t *testing.T) {
	h := newHouse(t)
	for kind, want := range map[api.StepKind]api.RequestKind{api.StAsk: api.RqAsk, api.StFace: api.RqFace} {
		for _, n := range []int{0, 5, 63} {
			d := h.do(h.a, client.Op{Kind: kind, A: n, B: 9, Pub: 1}, 30)
			next := copied(h.a)
			next.Outbox = append(next.Outbox, api.Request{Kind: want, Seq: next.Seq, N: n})
			next.Seq++
			same(t, "asked", d, next)
		}
		for _, n := range []int{-1, -2, 64, math.MinInt, math.MaxInt} {
			h.refusedDo(h.a, "asked", client.Op{Kind: kind, A: n}, api.ErrArg)
		}
	}
}

func TestP192Note(t *testing.T) {
	h := newHouse(t)
	d := h.a
	for sent, n := range []int{7, 0, -3, math.MaxInt, math.MinInt, 7} {
		st := held(t, d, 5)
		key, e := chain.Key(h.s, st.Now.App, 8, sent)
		same(t, "Key", e, api.OK)
		note := api.Note{Group: 5, Epoch: 1, By: 8, N: sent, Term: h.put(sealed(key, h.put(data(int64(n)))))}
		next := h.do(d, client.Op{Kind: api.StNote, A: 5, B: n}, 30)
		want := copied(d)
		want.Outbox = append(want.Outbox, api.Request{Kind: api.RqNote, Seq: want.Seq, Note: note})
		want.Seq++
		want.States[1].Sent = sent + 1
		same(t, "told", next, want)
		d = next
	}
	// It may wait there.
	h.do(h.do(h.a, client.Op{Kind: api.StRefresh, A: 5}, 0), client.Op{Kind: api.StNote, A: 5, B: 1}, 0)
	for _, g := range []int{4, -2, -1, 64} {
		h.refusedDo(h.a, "note", client.Op{Kind: api.StNote, A: g}, api.ErrGone)
	}
}

// TestP192NoteErrors: chain's errors are told as they are.
func TestP192NoteErrors(t *testing.T) {
	h := newHouse(t)
	for _, c := range []struct {
		sent, app int
		want      api.Errno
	}{
		{65536, 1, api.OK}, {65537, 1, api.ErrLimit}, {-1, 1, api.ErrArg}, {0, 0, api.ErrArg}, {0, -1, api.ErrArg}, {65537, 0, api.ErrArg},
		{math.MaxInt, 1, api.ErrLimit}, {math.MinInt, 1, api.ErrArg}, {1, 1 << 20, api.ErrArg},
	} {
		d := copied(h.a)
		d.States[1].Sent, d.States[1].Now.App = c.sent, c.app
		if c.want == api.OK {
			h.do(d, client.Op{Kind: api.StNote, A: 5, B: 1}, 0)
			continue
		}
		h.refusedDo(d, "note", client.Op{Kind: api.StNote, A: 5, B: 1}, c.want)
	}
}

// outside is the device 10, which is in, and has a face of the conversation 5.
func (h house) outside() api.Device {
	h.t.Helper()
	return h.take(h.in(), faceMail(group.FaceOf(h.invited)))
}

func TestP192Enter(t *testing.T) {
	h := newHouse(t)
	d := h.outside()
	next := h.do(d, client.Op{Kind: api.StEnter, A: 5, B: 9}, 30)
	p := h.plan(d, 5, 2, nil, []int{1})
	p.Removes, p.Entry = nil, h.rand(31)
	st, c, e := group.External(h.s, group.FaceOf(h.invited), p)
	h.composed(d, next, st, c, e)
	if !c.External || len(c.Removes) != 1 || c.Removes[0] != 1 {
		t.Error(c)
	}
	stranger := h.take(h.opened(24, 40), faceMail(group.FaceOf(h.invited)))
	lost := h.take(h.a, faceMail(group.FaceOf(h.invited)))
	// One that waits in its account, with a face of that by hand: that is no conversation.
	home := h.take(h.a, faceMail(group.FaceOf(h.link)))
	_, pub := h.fresh(11, 41)
	away := h.do(home, client.Op{Kind: api.StLink, A: 11, Pub: pub}, 42)
	for what, c := range map[string]struct {
		d    api.Device
		g    int
		want api.Errno
	}{
		"held": {lost, 5, api.ErrTwice}, "held, without a face": {h.a, 5, api.ErrTwice}, "busy": {next, 5, api.ErrBusy},
		"no face": {d, 4, api.ErrKey}, "none at all": {h.in(), 5, api.ErrKey}, "not in that": {stranger, 5, api.ErrOut},
		"its account": {home, -2, api.ErrKey}, "its account, busy": {away, -2, api.ErrKey}, "below 0": {d, math.MinInt, api.ErrKey},
		"far": {d, math.MaxInt, api.ErrKey},
	} {
		h.refusedDo(c.d, what, client.Op{Kind: api.StEnter, A: c.g}, c.want)
	}
	noFace := copied(next)
	noFace.Faces = nil
	h.refusedDo(noFace, "busy, without a face", client.Op{Kind: api.StEnter, A: 5}, api.ErrBusy)
	// The draw behind the last one is none.
	refused(t, h.s, "the last draw", api.ErrArg, func() (api.Device, api.Errno) {
		return client.Do(h.s, d, client.Op{Kind: api.StEnter, A: 5}, math.MaxInt)
	})
	h.must(client.Do(h.s, d, client.Op{Kind: api.StEnter, A: 5}, math.MaxInt-1))
}

// ops are those that go, of a device of a house that has more than it has at first.
func (h house) ops() (api.Device, []client.Op) {
	d := h.take(h.a, cardMail(api.Card{User: 7, Epoch: 3, Pub: h.pubOf(h.rand(90))}))
	other := h.opened(24, 91)
	other = h.do(other, client.Op{Kind: api.StCreate, A: 9}, 0)
	f := group.FaceOf(lastOf(other))
	f.Tree.Nodes[0].Member = 1
	d = h.take(d, faceMail(f))
	_, pub := h.fresh(11, 92)
	return d, []client.Op{
		{Kind: api.StLink, A: 11, Pub: pub}, {Kind: api.StRevoke, A: 9}, {Kind: api.StCreate, A: 1}, {Kind: api.StInvite, A: 5, B: 7},
		{Kind: api.StExpel, A: 5, B: 2}, {Kind: api.StRefresh, A: 5}, {Kind: api.StAsk, A: 1}, {Kind: api.StNote, A: 5, B: 1},
		{Kind: api.StFace, A: 1}, {Kind: api.StEnter, A: 9},
	}
}

// TestP192Kinds: there are ten ops, and no other; what refuses all of them, in its order.
func TestP192Kinds(t *testing.T) {
	h := newHouse(t)
	d, ops := h.ops()
	kinds := map[api.StepKind]bool{}
	for _, op := range ops {
		kinds[op.Kind] = true
		h.do(d, op, 100)
		notIn, out, both := d, d, d
		notIn.In, out.Out = false, true
		both.In, both.Out = false, true
		for what, d := range map[string]api.Device{"not in": notIn, "out": out, "both": both} {
			h.refusedDo(d, what, op, api.ErrOut)
			h.refusedDo(d, what, client.Op{Kind: op.Kind, A: -99, B: -99, Pub: -99}, api.ErrOut)
		}
		for _, draw := range []int{-1, math.MinInt} {
			refused(t, h.s, "draw", api.ErrArg, func() (api.Device, api.Errno) { return client.Do(h.s, d, op, draw) })
			refused(t, h.s, "draw", api.ErrArg, func() (api.Device, api.Errno) { return client.Do(h.s, out, op, draw) })
		}
		for _, s := range lost() {
			refused(t, s, "no store", api.ErrNil, func() (api.Device, api.Errno) { return client.Do(s, d, op, 0) })
			refused(t, s, "no store", api.ErrNil, func() (api.Device, api.Errno) { return client.Do(s, api.Device{Number: -1}, op, -1) })
		}
	}
	same(t, "kinds", len(kinds), 10)
	out := d
	out.Out = true
	for kind := range 256 {
		if k := api.StepKind(kind); !kinds[k] {
			h.refusedDo(d, "no op", client.Op{Kind: k, A: 5}, api.ErrArg)
			h.refusedDo(out, "no op, out", client.Op{Kind: k, A: 5}, api.ErrArg)
		}
	}
}

// TestP192Later: an account at a later epoch: its secret and its epoch are what counts.
func TestP192Later(t *testing.T) {
	h := newHouse(t)
	d := h.do(h.a, client.Op{Kind: api.StRevoke, A: 10}, 30)
	d = h.told(d, lastOf(d))
	next := h.do(d, client.Op{Kind: api.StRefresh, A: 5}, 31)
	st, c, e := group.Commit(h.s, held(t, d, 5), h.plan(d, 5, 2, nil, nil))
	h.composed(d, next, st, c, e)
	same(t, "KeyEpoch", c.KeyEpoch, 3)
}

// TestP192Errors: what group and account refuse is told as it is, and leaves no terms behind.
func TestP192Errors(t *testing.T) {
	h := newHouse(t)
	d, ops := h.ops()
	none := h.s.Len() + 1000
	account, conversation := func(d *api.Device) *api.State { return &d.States[0] }, func(d *api.Device) *api.State { return &d.States[1] }
	for what, c := range map[string]struct {
		by    func(d *api.Device)
		kinds string
	}{
		"Export":            {func(d *api.Device) { account(d).Now.Export = none }, "create invite expel refresh enter"},
		"the account's":     {func(d *api.Device) { account(d).Epoch = -1 }, "link revoke create invite expel refresh enter"},
		"its Init":          {func(d *api.Device) { account(d).Now.Init = 0 }, "link revoke"},
		"its Outer":         {func(d *api.Device) { account(d).Now.Outer = 0 }, "link revoke"},
		"its Member":        {func(d *api.Device) { account(d).Member, account(d).Leaf = 9, 1 }, "link revoke"},
		"its Leaf":          {func(d *api.Device) { account(d).Leaf = 1 }, "link revoke"},
		"a key":             {func(d *api.Device) { account(d).Keys[0].Secret = none }, "link revoke"},
		"its tree":          {func(d *api.Device) { account(d).Tree.Nodes[0].Pub = none }, "link revoke"},
		"Init":              {func(d *api.Device) { conversation(d).Now.Init = -1 }, "invite expel refresh"},
		"Epoch":             {func(d *api.Device) { conversation(d).Epoch = -1 }, "invite expel refresh"},
		"Member":            {func(d *api.Device) { conversation(d).Member, conversation(d).Leaf = 2, 1 }, "invite expel refresh"},
		"a member's key":    {func(d *api.Device) { conversation(d).Tree.Nodes[2].Pub = none }, "invite expel refresh"},
		"a card's Pub":      {func(d *api.Device) { d.Cards[1].Pub = none }, "invite"},
		"a card's Epoch":    {func(d *api.Device) { d.Cards[1].Epoch = -1 }, "invite"},
		"a face's Pub":      {func(d *api.Device) { d.Faces[0].Pub = none }, "enter"},
		"a face's Epoch":    {func(d *api.Device) { d.Faces[0].Epoch = -1 }, "enter"},
		"a face's tree":     {func(d *api.Device) { d.Faces[0].Tree.Nodes[0].Pub = none }, "enter"},
		"nothing but In":    {func(d *api.Device) { *account(d) = api.State{Group: -2, Epoch: -1} }, "link create invite expel refresh enter"},
		"a far card's user": {func(d *api.Device) { d.Cards[1].User = 7 }, ""},
	} {
		bad := copied(d)
		c.by(&bad)
		var kinds []api.StepKind
		for _, op := range ops {
			if slices.Contains(wordsOf(c.kinds), op.Kind) {
				h.refusedDo(bad, what, op, api.ErrArg)
				kinds = append(kinds, op.Kind)
			} else if op.Kind != api.StRevoke || what != "nothing but In" {
				h.do(bad, op, 501)
			}
		}
		same(t, "kinds", len(kinds), len(wordsOf(c.kinds)))
	}
}

// wordsOf are kinds by their words.
func wordsOf(text string) (l []api.StepKind) {
	for word, kind := range map[string]api.StepKind{
		"link": api.StLink, "revoke": api.StRevoke, "create": api.StCreate, "invite": api.StInvite, "expel": api.StExpel,
		"refresh": api.StRefresh, "enter": api.StEnter,
	} {
		for rest := text; len(rest) >= len(word); rest = rest[1:] {
			if rest[:len(word)] == word {
				l = append(l, kind)
			}
		}
	}
	return l
}

// TestP192First: of a group the first state, wait, face, and of a user the first card count.
func TestP192First(t *testing.T) {
	h := newHouse(t)
	d, _ := h.ops()
	d.Cards = append(d.Cards, api.Card{User: 7, Epoch: 9, Pub: 1})
	d.Faces = append(d.Faces, api.Face{Group: 9})
	d.States = append(d.States, api.State{Group: 5, Epoch: 77}, api.State{Group: -2, Epoch: 77})
	for _, op := range []client.Op{{Kind: api.StInvite, A: 5, B: 7}, {Kind: api.StEnter, A: 9}, {Kind: api.StNote, A: 5}, {Kind: api.StRevoke, A: 9}} {
		next := h.do(d, op, 100)
		plain, _ := h.ops()
		plain = h.do(plain, op, 100)
		same(t, "the same", next.Outbox, plain.Outbox)
		same(t, "left", len(next.States), len(d.States))
	}
	busy := h.do(d, client.Op{Kind: api.StRefresh, A: 5}, 0)
	busy.Waits = append(busy.Waits, api.Pending{Commit: api.Commit{Group: 5, Epoch: 99}})
	h.refusedDo(busy, "busy", client.Op{Kind: api.StRefresh, A: 5}, api.ErrBusy)
	same(t, "told", waits(h.take(busy, noMail(5, 99)), 5), true)
	same(t, "told", waits(h.take(busy, noMail(5, 2)), 5), false)
}
