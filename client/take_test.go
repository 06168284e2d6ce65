package client_test

import (
	"cmp"
	"math"
	"slices"
	"testing"

	"phratry/account"
	"phratry/api"
	"phratry/chain"
	"phratry/client"
	"phratry/group"
	"phratry/tree"
)

// takes: a mail is taken as the reading says, and without an error.
func (b bench) takes(d api.Device, m api.Mail) api.Device {
	b.t.Helper()
	return b.must(b.agreeTake(d, m))
}

// passes: of a mail nothing comes but that it is taken.
func (b bench) passes(d api.Device, what string, m api.Mail) {
	b.t.Helper()
	want := copied(d)
	want.Cursor++
	same(b.t, what, b.takes(d, m), want)
}

func (b bench) refusedTake(d api.Device, what string, m api.Mail, want api.Errno) {
	b.t.Helper()
	refused(b.t, b.s, what, want, func() (api.Device, api.Errno) { return client.Take(b.s, d, m) })
}

// withState is a device with a state in the place of the one of its group, or beside the others.
func withState(d api.Device, st api.State) api.Device {
	d = copied(d)
	for i := range d.States {
		if d.States[i].Group == st.Group {
			d.States[i] = st
			return d
		}
	}
	d.States = append(d.States, st)
	slices.SortFunc(d.States, func(x, y api.State) int { return cmp.Compare(x.Group, y.Group) })
	return d
}

// TestP194Wait: whoever takes the commit for which it waits has the state that it had made.
func TestP194Wait(t *testing.T) {
	h := newHouse(t)
	for what, c := range map[string]struct {
		op client.Op
		g  int
	}{
		"revoke": {client.Op{Kind: api.StRevoke, A: 10}, -2}, "create": {client.Op{Kind: api.StCreate, A: 1}, 1},
		"refresh": {client.Op{Kind: api.StRefresh, A: 5}, 5}, "expel": {client.Op{Kind: api.StExpel, A: 5, B: 2}, 5},
	} {
		d := h.do(h.a, c.op, 30)
		p := d.Waits[0]
		next := h.takes(d, commitMail(p.Commit))
		want := withState(d, p.State)
		want.Waits, want.Cursor = nil, d.Cursor+1
		if c.g < 0 {
			want.Past = append(want.Past, api.Past{Epoch: 3, Secret: p.State.Now.Export})
		}
		same(t, what, next, want)
		// A second time it is one of an epoch that was.
		h.passes(next, what+" again", commitMail(p.Commit))
	}
}

// changed are commits that differ from one in one field each.
func changed(c api.Commit) map[string]api.Commit {
	m := map[string]api.Commit{}
	for what, by := range map[string]func(c *api.Commit){
		"By": func(c *api.Commit) { c.By++ }, "KeyEpoch": func(c *api.Commit) { c.KeyEpoch++ }, "Own": func(c *api.Commit) { c.Own++ },
		"Entry": func(c *api.Commit) { c.Entry++ }, "Card": func(c *api.Commit) { c.Card++ }, "External": func(c *api.Commit) { c.External = true },
		"Adds":    func(c *api.Commit) { c.Adds = append(c.Adds, api.Add{Member: 33, Pub: 1}) },
		"Removes": func(c *api.Commit) { c.Removes = append(c.Removes, 33) },
		"Seals":   func(c *api.Commit) { c.Seals = append(c.Seals, api.Seal{}) },
		"Joins":   func(c *api.Commit) { c.Joins = append(c.Joins, api.Join{Member: 33}) },
		"Face":    func(c *api.Commit) { c.Face++ }, "Member": func(c *api.Commit) { c.Member = 33 },
		"Next": func(c *api.Commit) { c.Next.Nodes[0].Pub++ }, "Unmerged": func(c *api.Commit) { c.Next.Nodes[1].Unmerged = []int{0} },
		"Epoch of a leaf": func(c *api.Commit) { c.Next.Nodes[0].Epoch++ },
	} {
		x := copied(c)
		by(&x)
		m[what] = x
	}
	return m
}

// TestP194NearlyItsOwn: a commit that is not the same in all its fields is not the one for which it waits.
func TestP194NearlyItsOwn(t *testing.T) {
	h := newHouse(t)
	d := h.do(h.a, client.Op{Kind: api.StCreate, A: 1}, 30)
	d = h.told(d, lastOf(d))
	for what, op := range map[string]client.Op{"account": {Kind: api.StRevoke, A: 10}, "conversation": {Kind: api.StRefresh, A: 5}} {
		d := h.do(d, op, 31)
		p := d.Waits[0]
		for field, c := range changed(p.Commit) {
			// A state that nobody could come to otherwise tells which way it went.
			marked := copied(d)
			marked.Waits[0].State.Sent = 77
			next, e := h.agreeTake(marked, commitMail(c))
			if e == api.OK && slices.ContainsFunc(next.States, func(st api.State) bool { return st.Sent == 77 }) {
				t.Error(what, field, "was taken for its own")
			}
			if e == api.OK && waits(next, p.Commit.Group) {
				t.Error(what, field, "still waits")
			}
		}
	}
}

// TestP194Loser: of two devices that refresh at the same epoch one follows the other one, and waits no more.
func TestP194Loser(t *testing.T) {
	h := newHouse(t)
	a, b := h.do(h.a, client.Op{Kind: api.StRefresh, A: 5}, 30), h.do(h.b, client.Op{Kind: api.StRefresh, A: 5}, 31)
	o := h.do(h.o, client.Op{Kind: api.StRefresh, A: 5}, 32)
	c := lastOf(a)
	for what, d := range map[string]api.Device{"own": b, "another's": o} {
		next := h.takes(d, commitMail(c))
		same(t, what, []bool{waits(next, 5), held(t, next, 5).Now == a.Waits[0].State.Now}, []bool{false, true})
		h.passes(next, "MlNo", noMail(5, 2))
	}
}

// TestP194WaitsNoMore: by any commit of an epoch at or above that for which it waits, in that group alone.
func TestP194WaitsNoMore(t *testing.T) {
	h := newHouse(t)
	d := h.do(h.do(h.a, client.Op{Kind: api.StCreate, A: 1}, 30), client.Op{Kind: api.StRefresh, A: 5}, 31)
	d = h.do(d, client.Op{Kind: api.StRevoke, A: 10}, 32)
	d.Waits = append(d.Waits, api.Pending{Commit: api.Commit{Group: 9, Epoch: 4}}, api.Pending{Commit: api.Commit{Group: 12, Epoch: 4}})
	for _, c := range []struct {
		g, epoch int
		no       bool
	}{
		{1, 0, true}, {1, 7, true}, {1, -1, false}, {5, 3, true}, {5, math.MaxInt, true}, {5, 1, false}, {5, 0, false}, {9, 4, true}, {9, 5, true},
		{9, 3, false}, {9, math.MinInt, false}, {-2, 4, true}, {-2, 9, true}, {-2, 2, false}, {-2, 1, false}, {13, 9, false}, {-1, 9, false},
	} {
		want := copied(d)
		want.Cursor++
		if c.no {
			want.Waits = slices.DeleteFunc(want.Waits, func(p api.Pending) bool { return p.Commit.Group == c.g })
		}
		same(t, tell(c), h.takes(d, commitMail(api.Commit{Group: c.g, Epoch: c.epoch, By: 99, Member: 99})), want)
	}
	for _, c := range []struct {
		g, epoch int
		no       bool
	}{
		{1, 0, true}, {1, 1, false}, {1, -1, false}, {5, 2, true}, {5, 3, false}, {5, 1, false}, {9, 4, true}, {9, 5, false}, {9, 3, false},
		{-2, 3, true}, {-2, 2, false}, {-2, 4, false}, {13, 4, false}, {0, 4, false},
	} {
		want := copied(d)
		want.Cursor++
		if c.no {
			want.Waits = slices.DeleteFunc(want.Waits, func(p api.Pending) bool { return p.Commit.Group == c.g })
		}
		m := noMail(c.g, c.epoch)
		m.Commit = api.Commit{Group: 12, Epoch: 9}
		same(t, "MlNo "+tell(c), h.takes(d, m), want)
	}
}

// TestP194Follow: the account's next epoch, by the group's Follow.
func TestP194Follow(t *testing.T) {
	h := newHouse(t)
	d := h.do(h.a, client.Op{Kind: api.StRevoke, A: 10}, 30)
	c := lastOf(d)
	st, e := group.Follow(h.s, held(t, h.b, -2), c)
	same(t, "Follow", e, api.OK)
	want := withState(h.b, st)
	want.Cursor++
	want.Past = append(want.Past, api.Past{Epoch: 3, Secret: st.Now.Export})
	same(t, "device", h.takes(h.b, commitMail(c)), want)
	// At other epochs it is nothing to it.
	h.passes(h.b, "the epoch it is at", commitMail(h.link))
	later := h.told(h.b, c)
	h.passes(later, "an epoch that was", commitMail(c))
	c.Epoch++
	h.passes(h.b, "an epoch too late", commitMail(c))
}

// TestP194Out: it keeps its number, that it is out, its Seq, Cursor and Inbox.
func TestP194Out(t *testing.T) {
	h := newHouse(t)
	b := h.do(h.b, client.Op{Kind: api.StRefresh, A: 5}, 30)
	b = h.take(h.take(b, cardMail(api.Card{User: 2})), faceMail(group.FaceOf(h.created)))
	told := h.do(h.a, client.Op{Kind: api.StNote, A: 5, B: 99}, 31)
	b = h.take(b, noteMail(told.Outbox[0].Note))
	b.First = 1
	d := h.do(h.a, client.Op{Kind: api.StRevoke, A: 9}, 32)
	out := h.takes(b, commitMail(lastOf(d)))
	got := []api.Got{{Group: 5, Epoch: 1, By: 8, N: 0, Text: 99}}
	same(t, "out", out, api.Device{Number: 9, Out: true, Seq: b.Seq, Cursor: b.Cursor + 1, Inbox: got})
	// Others follow.
	same(t, "10", len(h.takes(h.in(), commitMail(lastOf(d))).Past), 2)

	// One that is out takes its mail, whatever it is, and nothing else. (P19.7)
	bad := api.Mail{Kind: api.MlNote, Note: api.Note{Group: 5, Epoch: 1, N: -1}}
	for _, m := range []api.Mail{commitMail(h.link), noMail(5, 2), cardMail(api.Card{User: 3}), faceMail(group.FaceOf(h.invited)), bad, noteMail(told.Outbox[0].Note)} {
		h.passes(out, "out", m)
		full := copied(h.a)
		full.Out = true
		h.passes(full, "out, but not emptied", m)
	}
	same(t, "Work", h.must(h.agreeWork(out)), out)
	h.refusedDo(out, "Do", client.Op{Kind: api.StAsk}, api.ErrOut)
	h.refusedTake(out, "no kind", api.Mail{}, api.ErrArg)
}

// TestP194OutAndIn: who goes out and comes in by one commit is not out.
func TestP194OutAndIn(t *testing.T) {
	h := newHouse(t)
	wiped := api.Device{Number: 9}
	back := h.must(client.Rejoin(h.s, wiped, group.FaceOf(h.link), 3, 7, 40))
	c := lastOf(back)
	if !slices.Contains(c.Removes, 9) || tree.Find(c.Next, 9) < 0 {
		t.Fatal(c)
	}
	// One that is in, though it is that device: it is not out, and group says that nobody follows its own commit.
	_, e := h.agreeTake(h.b, commitMail(c))
	same(t, "9", e, api.ErrRule)
	same(t, "8", held(t, h.takes(h.a, commitMail(c)), -2).Now, back.Waits[0].State.Now)
	in := h.takes(back, commitMail(c))
	want := api.Device{
		Number: 9, In: true, States: []api.State{back.Waits[0].State}, Outbox: back.Outbox, Seq: 4, Cursor: 8,
		Past: []api.Past{{Epoch: 3, Secret: back.Waits[0].State.Now.Export}},
	}
	same(t, "back", in, want)
	// Of a conversation likewise.
	outside := h.do(h.outside(), client.Op{Kind: api.StEnter, A: 5}, 41)
	c = lastOf(outside)
	same(t, "enters", []any{c.External, slices.Contains(c.Removes, 1)}, []any{true, true})
	for what, d := range map[string]api.Device{"8": h.a, "16": h.o} {
		same(t, what, held(t, h.takes(d, commitMail(c)), 5).Now, outside.Waits[0].State.Now)
	}
}

// TestP194First: one that is not in comes in by First, where a Join is for it.
func TestP194First(t *testing.T) {
	h := newHouse(t)
	st, e := group.Enter(h.s, h.link, 10, h.late.First)
	same(t, "Enter", e, api.OK)
	want := copied(h.late)
	want.In, want.States, want.Cursor = true, []api.State{st}, 1
	want.Past = []api.Past{{Epoch: 2, Secret: st.Now.Export}}
	in := h.takes(h.late, commitMail(h.link))
	same(t, "in", in, want)
	h.passes(in, "again", commitMail(h.link))
	// No Join is for it.
	other, pub := h.fresh(11, 40)
	h.passes(other, "another's Join", commitMail(h.link))
	d := h.do(h.a, client.Op{Kind: api.StRevoke, A: 9}, 41)
	h.passes(h.late, "no Join", commitMail(lastOf(d)))
	// A second secret is another one; a term that is none is refused.
	wrong := copied(h.late)
	wrong.First = h.rand(999)
	h.refusedTake(wrong, "another First", commitMail(h.link), api.ErrKey)
	wrong.First = h.s.Len() + 1000
	h.refusedTake(wrong, "no term", commitMail(h.link), api.ErrArg)
	// Without a First nothing lets it in: a wiped one goes on.
	h.passes(api.Device{Number: 10}, "wiped", commitMail(h.link))
	// A foreign account's Join is none of its own.
	foreign := copied(h.link)
	foreign.Group = -3
	h.passes(h.late, "another account's", commitMail(foreign))
	// One that waits to rejoin, and has a First by hand, comes in as well.
	d = h.do(h.a, client.Op{Kind: api.StLink, A: 11, Pub: pub}, 42)
	same(t, "11", held(t, h.takes(other, commitMail(lastOf(d))), -2).Now, d.Waits[0].State.Now)
}

// TestP194Foreign: other users' accounts are nothing to a device.
func TestP194Foreign(t *testing.T) {
	h := newHouse(t)
	_, pub := h.fresh(17, 40)
	d := h.do(h.o, client.Op{Kind: api.StLink, A: 17, Pub: pub}, 41)
	h.passes(h.a, "a foreign account", commitMail(lastOf(d)))
	st := held(t, h.o, -3)
	h.passes(withState(h.a, st), "a foreign account that is held", commitMail(lastOf(d)))
	h.passes(withState(h.a, st), "one that takes it out", commitMail(api.Commit{Group: -3, Epoch: 1, Removes: []int{8, 1}}))
	h.passes(h.a, "no user's", commitMail(api.Commit{Group: math.MinInt, Epoch: 1, Removes: []int{8, 1}}))
}

// TestP197Settles: whoever takes the commit for which it waits has the state that it had made, in whatever group.
func TestP197Settles(t *testing.T) {
	h := newHouse(t)
	_, pub := h.fresh(17, 40)
	o := h.do(h.o, client.Op{Kind: api.StLink, A: 17, Pub: pub}, 41)
	foreign := o.Waits[0]
	for _, group := range []int{-3, -1, -64, -65, math.MinInt, 7, 64, math.MaxInt} {
		p := copied(foreign)
		p.Commit.Group, p.State.Group = group, group
		for what, d := range map[string]api.Device{"beside others": copied(h.a), "alone": {Number: 10}, "out of its account": {Number: 10, First: pub}} {
			d.Waits = append(copied(d.Waits), p, api.Pending{Commit: api.Commit{Group: -7, Epoch: 1}})
			slices.SortFunc(d.Waits, func(x, y api.Pending) int { return cmp.Compare(x.Commit.Group, y.Commit.Group) })
			want := withState(d, p.State)
			want.Waits, want.Cursor = []api.Pending{{Commit: api.Commit{Group: -7, Epoch: 1}}}, d.Cursor+1
			same(t, tell(group)+" "+what, h.takes(d, commitMail(p.Commit)), want)
			// One that is not quite the same, and is behind it, does nothing but end the wait.
			if other := copied(p.Commit); group < 0 {
				other.Own++
				want.States = d.States
				same(t, tell(group)+" another one, "+what, h.takes(d, commitMail(other)), want)
				other.Epoch--
				want.Waits = d.Waits
				same(t, tell(group)+" one ahead, "+what, h.takes(d, commitMail(other)), want)
			}
		}
	}
}

// TestP194Conversation: another user's commit, an own device's, at other epochs.
func TestP194Conversation(t *testing.T) {
	h := newHouse(t)
	o := h.do(h.o, client.Op{Kind: api.StRefresh, A: 5}, 40)
	c := lastOf(o)
	st, e := group.Follow(h.s, held(t, h.a, 5), c)
	same(t, "Follow", e, api.OK)
	want := withState(h.a, st)
	want.Cursor++
	same(t, "followed", h.takes(h.a, commitMail(c)), want)
	h.passes(h.a, "the epoch it is at", commitMail(h.invited))
	h.passes(h.a, "one that was", commitMail(h.created))
	h.passes(h.a, "one with nothing in it", commitMail(api.Commit{}))
	late := copied(c)
	late.Epoch = 3
	h.passes(h.a, "too late", commitMail(late))

	a := h.do(h.a, client.Op{Kind: api.StRefresh, A: 5}, 41)
	c = lastOf(a)
	own, _ := account.Own(h.s, held(t, h.a, -2).Now.Export)
	st, e = group.Own(h.s, c, own)
	same(t, "Own", e, api.OK)
	want = withState(h.b, st)
	want.Cursor++
	same(t, "own", h.takes(h.b, commitMail(c)), want)
	same(t, "secrets", st.Now, a.Waits[0].State.Now)
	// KeyEpoch picks the entry of Past, wherever the account is now.
	same(t, "Past", []int{h.b.Past[0].Epoch, h.b.Past[1].Epoch}, []int{1, 2})
	on := h.do(h.b, client.Op{Kind: api.StRevoke, A: 10}, 42)
	on = h.told(on, lastOf(on))
	same(t, "later", held(t, h.takes(on, commitMail(c)), 5).Now, st.Now)
}

// TestP194Lost: it no longer holds a conversation that it can't follow: its user goes out, or the entry of Past is not
// there.
func TestP194Lost(t *testing.T) {
	h := newHouse(t)
	lostOf := func(d api.Device) api.Device {
		want := copied(d)
		want.Cursor++
		want.States = slices.DeleteFunc(want.States, func(st api.State) bool { return st.Group == 5 })
		return want
	}
	c := lastOf(h.do(h.a, client.Op{Kind: api.StExpel, A: 5, B: 2}, 40))
	same(t, "expelled", h.takes(h.o, commitMail(c)), lostOf(h.o))
	same(t, "another user is not", len(h.takes(h.b, commitMail(c)).States), 2)
	c = lastOf(h.do(h.o, client.Op{Kind: api.StExpel, A: 5, B: 1}, 41))
	same(t, "its user", h.takes(h.b, commitMail(c)), lostOf(h.b))
	c = lastOf(h.do(h.a, client.Op{Kind: api.StRefresh, A: 5}, 42))
	young := copied(h.b)
	young.Past = []api.Past{{Epoch: 1, Secret: h.b.Past[0].Secret}, {Epoch: 3, Secret: h.b.Past[1].Secret}}
	same(t, "no entry", h.takes(young, commitMail(c)), lostOf(young))
	// It loses it at the next epoch alone.
	c.Epoch = 3
	h.passes(young, "too late", commitMail(c))
	// Who waits for the commit that is taken has its state; of one that is not the same, it loses the group, and waits no more.
	busy := h.do(h.o, client.Op{Kind: api.StRefresh, A: 5}, 43)
	c = lastOf(h.do(h.a, client.Op{Kind: api.StExpel, A: 5, B: 2}, 44))
	want := lostOf(busy)
	want.Waits = nil
	same(t, "busy", h.takes(busy, commitMail(c)), want)
}

// TestP194ComesIn: of a conversation that it does not hold: by a commit of its own user, and by a card.
func TestP194ComesIn(t *testing.T) {
	h := newHouse(t)
	in := h.in()
	// The epoch 1 was made with the account's epoch 1, which the device 10 never had.
	h.passes(in, "ahead of Past", commitMail(h.invited))
	c := lastOf(h.do(h.a, client.Op{Kind: api.StRefresh, A: 5}, 40))
	own, _ := account.Own(h.s, in.Past[0].Secret)
	st, e := group.Own(h.s, c, own)
	same(t, "Own", e, api.OK)
	same(t, "by its own", h.takes(in, commitMail(c)), withState(set(in, func(d *api.Device) { d.Cursor++ }), st))
	// Another user's commit without a Join for its own is nothing to it.
	h.passes(in, "another user's", commitMail(lastOf(h.do(h.o, client.Op{Kind: api.StRefresh, A: 5}, 41))))

	// The user 1 is let into 6 by the user 2, with the card of the account's epoch 2.
	o := h.do(h.o, client.Op{Kind: api.StCreate, A: 6}, 42)
	o = h.told(o, lastOf(o))
	o = h.take(o, cardMail(api.Card{User: 1, Epoch: 2, Pub: h.link.Card}))
	o = h.do(o, client.Op{Kind: api.StInvite, A: 6, B: 1}, 43)
	c = lastOf(o)
	key, _, _ := account.Card(h.s, in.Past[0].Secret)
	st, e = group.Enter(h.s, c, 1, key)
	same(t, "Enter", e, api.OK)
	same(t, "by card", h.takes(in, commitMail(c)), withState(set(in, func(d *api.Device) { d.Cursor++ }), st))
	for what, d := range map[string]api.Device{"8": h.a, "9": h.b} {
		same(t, what, held(t, h.takes(d, commitMail(c)), 6).Now, o.Waits[0].State.Now)
	}
	// The entry of Past is not there.
	young := copied(in)
	young.Past[0].Epoch = 3
	h.passes(young, "no entry", commitMail(c))
	// The user 3 is not let in.
	h.passes(h.opened(24, 44), "another's Join", commitMail(c))
	// It holds the group, at another epoch: the Join is nothing to it.
	far := withState(in, api.State{Group: 6, Epoch: 7})
	h.passes(far, "held at another epoch", commitMail(c))
	// An Add without a Join, a Join without an Add.
	alone := copied(c)
	alone.Joins = nil
	h.passes(in, "no Join", commitMail(alone))
	alone = copied(c)
	alone.Adds = nil
	h.passes(in, "no Add", commitMail(alone))
	// Not in: nothing is known of the account.
	h.passes(h.late, "not in", commitMail(c))
	h.passes(api.Device{Number: 10}, "wiped", commitMail(c))
}

// TestP194ErrorsOfCommits: what group refuses is told as it is, and leaves no terms.
func TestP194ErrorsOfCommits(t *testing.T) {
	h := newHouse(t)
	in := h.in()
	o := h.do(h.o, client.Op{Kind: api.StCreate, A: 6}, 42)
	o = h.take(h.told(o, lastOf(o)), cardMail(api.Card{User: 1, Epoch: 2, Pub: h.link.Card}))
	invited := lastOf(h.do(o, client.Op{Kind: api.StInvite, A: 6, B: 1}, 43))
	_, pub := h.fresh(11, 44)
	for what, x := range map[string]struct {
		d api.Device
		c api.Commit
	}{
		"Follow in the account": {h.b, lastOf(h.do(h.a, client.Op{Kind: api.StLink, A: 11, Pub: pub}, 45))},
		"Follow":                {h.o, lastOf(h.do(h.a, client.Op{Kind: api.StRefresh, A: 5}, 46))},
		"Own":                   {h.b, lastOf(h.do(h.a, client.Op{Kind: api.StRefresh, A: 5}, 46))},
		"Own of one outside":    {in, lastOf(h.do(h.a, client.Op{Kind: api.StRefresh, A: 5}, 46))},
		"Enter by card":         {in, invited},
		"Enter by First":        {h.late, h.link},
	} {
		errors := map[api.Errno]int{}
		for field, c := range changed(x.c) {
			_, e := h.agreeTake(x.d, commitMail(c))
			if e != api.OK {
				errors[e]++
			} else if field == "Face" || field == "Next" {
				t.Error(what, "lets go", field)
			}
		}
		for _, by := range []func(c *api.Commit){
			func(c *api.Commit) { c.Face = 0 }, func(c *api.Commit) { c.Next = api.Tree{} }, func(c *api.Commit) { c.Joins[0].Term = -1 },
			func(c *api.Commit) { c.Joins[0].Term = c.Face }, func(c *api.Commit) { c.Seals[0].Term = c.Face }, func(c *api.Commit) { c.Own = c.Face },
			func(c *api.Commit) { c.Adds[0].Pub = 1 }, func(c *api.Commit) { c.Seals = nil }, func(c *api.Commit) { c.KeyEpoch = -1 },
			func(c *api.Commit) { c.Own = 0 }, func(c *api.Commit) { c.Adds[0].Epoch++ }, func(c *api.Commit) { c.Member = -5 },
		} {
			c := copied(set(x.c, func(c *api.Commit) { c.Joins, c.Seals, c.Adds = padded(c.Joins), padded(c.Seals), padded(c.Adds) }))
			by(&c)
			_, e := h.agreeTake(x.d, commitMail(c))
			errors[e]++
		}
		if errors[api.ErrArg] == 0 || errors[api.ErrKey] == 0 {
			t.Error(what, errors)
		}
	}
	// Secrets of Past that are none.
	none := copied(h.b)
	none.Past[1].Secret = -3
	h.refusedTake(none, "Past", commitMail(lastOf(h.do(h.a, client.Op{Kind: api.StRefresh, A: 5}, 46))), api.ErrArg)
	none = copied(in)
	none.Past[0].Secret = h.s.Len() + 1000
	h.refusedTake(none, "Past", commitMail(invited), api.ErrArg)
	none.Past[0].Secret = 1
	h.refusedTake(none, "another secret", commitMail(invited), api.ErrKey)
	none = copied(h.b)
	none.Past[1].Secret = 1
	h.refusedTake(none, "another secret", commitMail(lastOf(h.do(h.a, client.Op{Kind: api.StRefresh, A: 5}, 46))), api.ErrKey)
}

// padded is a list with something in it.
func padded[T any](l []T) []T {
	if len(l) > 0 {
		return l
	}
	return make([]T, 1)
}

// TestP194Cards: kept, if newer than what is there, or as new; rising.
func TestP194Cards(t *testing.T) {
	h := newHouse(t)
	d := h.o
	var want []api.Card
	for _, c := range []struct {
		card api.Card
		kept bool
	}{
		{api.Card{User: 7, Epoch: 3, Pub: 1}, true}, {api.Card{User: 7, Epoch: 2, Pub: 2}, false}, {api.Card{User: 7, Epoch: 3, Pub: 3}, true},
		{api.Card{User: 7, Epoch: 4, Pub: 4}, true}, {api.Card{User: 3, Epoch: 0, Pub: 5}, true}, {api.Card{User: 9, Epoch: 0, Pub: 6}, true},
		{api.Card{User: 8, Epoch: -1, Pub: 7}, true}, {api.Card{User: 8, Epoch: -2, Pub: 8}, false}, {api.Card{User: 2, Epoch: 1, Pub: 9}, true},
		{api.Card{User: math.MaxInt, Epoch: 1, Pub: math.MinInt}, true}, {api.Card{User: math.MinInt, Pub: -1}, true},
	} {
		d = h.takes(d, cardMail(c.card))
		if c.kept {
			want = slices.DeleteFunc(want, func(x api.Card) bool { return x.User == c.card.User })
			want = append(want, c.card)
			slices.SortFunc(want, func(x, y api.Card) int {
				if x.User < y.User {
					return -1
				}
				return 1
			})
		}
		same(t, tell(c), d.Cards, want)
	}
	// One that is not in keeps them, too.
	same(t, "not in", h.takes(api.Device{Number: 4}, cardMail(api.Card{User: 2})).Cards, []api.Card{{User: 2}})
}

// TestP194Faces: likewise.
func TestP194Faces(t *testing.T) {
	h := newHouse(t)
	d := h.o
	face := func(g, epoch int) api.Face {
		return api.Face{Group: g, Epoch: epoch, Pub: g + epoch, Tree: api.Tree{Nodes: []api.Node{{Member: epoch, Unmerged: []int{g}}}}}
	}
	var want []api.Face
	for _, c := range []struct {
		g, epoch int
		kept     bool
	}{{7, 3, true}, {7, 2, false}, {7, 3, true}, {7, 5, true}, {-3, 0, true}, {9, 0, true}, {8, -1, true}, {8, -2, false}, {0, 1, true}} {
		f := face(c.g, c.epoch)
		f.Pub += len(want)
		d = h.takes(d, faceMail(f))
		if c.kept {
			want = append(slices.DeleteFunc(want, func(x api.Face) bool { return x.Group == c.g }), f)
			slices.SortFunc(want, func(x, y api.Face) int { return cmp.Compare(x.Group, y.Group) })
		}
		same(t, tell(c), d.Faces, want)
	}
	same(t, "not in", h.takes(api.Device{Number: 4}, faceMail(face(1, 1))).Faces, []api.Face{face(1, 1)})
}

// TestP194Notes: opened, if it holds the group at that epoch.
func TestP194Notes(t *testing.T) {
	h := newHouse(t)
	d := h.a
	for n, text := range []int{7, -1, math.MaxInt, math.MinInt, 0} {
		d = h.do(d, client.Op{Kind: api.StNote, A: 5, B: text}, 0)
		note := d.Outbox[n].Note
		want := copied(h.o)
		want.Cursor++
		want.Inbox = append(want.Inbox, api.Got{Group: 5, Epoch: 1, By: 8, N: n, Text: text})
		h.o = h.takes(h.o, noteMail(note))
		same(t, "16", h.o, want)
		// Its own user's devices open it, too, and itself; one by one, in any order.
		same(t, "9", h.takes(h.b, noteMail(note)).Inbox, want.Inbox[n:])
		same(t, "8", h.takes(d, noteMail(note)).Inbox, want.Inbox[n:])
		for what, by := range map[string]func(n *api.Note){
			"epoch 0": func(n *api.Note) { n.Epoch = 0 }, "epoch 2": func(n *api.Note) { n.Epoch = 2 },
			"group": func(n *api.Note) { n.Group = 4 }, "no group": func(n *api.Note) { n.Group, n.Term = -9, -9 },
		} {
			other := note
			by(&other)
			h.passes(h.o, what, noteMail(other))
		}
		for what, by := range map[string]func(n *api.Note){
			"By": func(n *api.Note) { n.By = 9 }, "N": func(n *api.Note) { n.N++ }, "Term": func(n *api.Note) { n.Term++ },
			"no seal": func(n *api.Note) { n.Term = 1 }, "no term": func(n *api.Note) { n.Term = -1 }, "none": func(n *api.Note) { n.Term = 0 },
		} {
			other := note
			by(&other)
			h.refusedTake(h.o, what, noteMail(other), api.ErrKey)
		}
	}
	// Behind the next epoch it is not opened any more, nor by one that is not in.
	note := d.Outbox[0].Note
	o := h.do(h.o, client.Op{Kind: api.StRefresh, A: 5}, 50)
	h.passes(h.told(o, lastOf(o)), "later", noteMail(note))
	h.passes(h.in(), "not held", noteMail(note))
	h.passes(api.Device{Number: 40}, "not in", noteMail(note))
}

// TestP194NotesByHand: what a note may be sealed with, and what may be in it.
func TestP194NotesByHand(t *testing.T) {
	h := newHouse(t)
	app := held(t, h.o, 5).Now.App
	key, _ := chain.Key(h.s, app, 99, 3)
	note := api.Note{Group: 5, Epoch: 1, By: 99, N: 3}
	text := h.put(data(12))
	for what, c := range map[string]struct {
		term int
		want api.Errno
	}{
		"the key": {h.put(sealed(key, text)), api.OK}, "its public key": {h.put(sealed(h.pubOf(key), text)), api.OK},
		"another key": {h.put(sealed(app, text)), api.ErrKey}, "another public key": {h.put(sealed(h.pubOf(app), text)), api.ErrKey},
		"a public key's": {h.put(sealed(h.pubOf(h.pubOf(key)), text)), api.ErrKey}, "a pair": {h.put(sealed(key, h.put(pair(text, text)))), api.ErrKey},
		"a secret": {h.put(sealed(key, key)), api.ErrKey}, "a seal": {h.put(sealed(key, h.put(sealed(key, text)))), api.ErrKey},
		"the text": {text, api.ErrKey}, "derived": {h.put(kdf(3, key)), api.ErrKey},
	} {
		note.Term = c.term
		next, e := h.agreeTake(h.o, noteMail(note))
		same(t, what, e, c.want)
		if e == api.OK {
			same(t, what, next.Inbox, []api.Got{{Group: 5, Epoch: 1, By: 99, N: 3, Text: 12}})
		}
	}
	// What chain refuses is told as it is.
	note.Term = h.put(sealed(key, text))
	for _, c := range []struct {
		n, app int
		want   api.Errno
	}{{-1, app, api.ErrArg}, {65537, app, api.ErrLimit}, {65536, app, api.ErrKey}, {3, 0, api.ErrArg}, {3, -1, api.ErrArg}, {3, 1 << 30, api.ErrArg}, {65537, 0, api.ErrArg}, {3, 1, api.ErrKey}} {
		note.N = c.n
		d := copied(h.o)
		d.States[1].Now.App = c.app
		h.refusedTake(d, tell(c), noteMail(note), c.want)
	}
	// The account is a group as well.
	d := copied(h.a)
	key, _ = chain.Key(h.s, held(t, d, -2).Now.App, 9, 0)
	next := h.takes(d, noteMail(api.Note{Group: -2, Epoch: 2, By: 9, Term: h.put(sealed(key, text))}))
	same(t, "account", next.Inbox, []api.Got{{Group: -2, Epoch: 2, By: 9, Text: 12}})
}

// TestP194Wrong: what may not be; the order of what is refused.
func TestP194Wrong(t *testing.T) {
	h := newHouse(t)
	for kind := range 256 {
		k := api.MailKind(kind)
		if k >= api.MlCommit && k <= api.MlNote {
			h.must(client.Take(h.s, h.a, api.Mail{Kind: k}))
			continue
		}
		h.refusedTake(h.a, "kind", api.Mail{Kind: k}, api.ErrArg)
	}
	for _, s := range lost() {
		for _, d := range []api.Device{h.a, {Number: -1}} {
			refused(t, s, "no store", api.ErrNil, func() (api.Device, api.Errno) { return client.Take(s, d, api.Mail{}) })
		}
	}
}

// TestP193Rejoin: an external commit, by the face of its account; only the number stays.
func TestP193Rejoin(t *testing.T) {
	h := newHouse(t)
	f := group.FaceOf(h.link)
	for _, c := range []struct{ done, mail, draw int }{{0, 0, 0}, {5, 9, 100}, {math.MaxInt - 1, math.MaxInt, math.MaxInt - 1}} {
		d := h.must(client.Rejoin(h.s, api.Device{Number: 9}, f, c.done, c.mail, c.draw))
		st, x, e := group.External(h.s, f, group.Plan{By: 9, Member: 9, Seed: h.rand(c.draw), Entry: h.rand(c.draw + 1)})
		same(t, "External", e, api.OK)
		x.Card = h.card(st.Now.Export)
		same(t, "Rejoin", d, api.Device{
			Number: 9, Waits: []api.Pending{{Commit: x, State: st}}, Seq: c.done + 1, Cursor: c.mail,
			Outbox: []api.Request{{Kind: api.RqCommit, Seq: c.done, Commit: x}},
		})
	}
	// What it has of other groups, and was told, stays; of its own requests none.
	d := api.Device{Number: 9, Seq: 77, Cursor: 88, Outbox: h.a.Outbox, Cards: h.a.Cards, Past: h.a.Past, Inbox: []api.Got{{N: 1}}}
	d.Outbox, d.Faces = []api.Request{{Kind: api.RqAsk}}, []api.Face{f}
	d.Waits = []api.Pending{{Commit: api.Commit{Group: -9}}, {Commit: api.Commit{Group: 3}}}
	d.States = []api.State{{Group: 4}}
	h.must(h.agreeRejoin(d, f, 4, 5, 6))
}

// TestP193Wrong: what is refused, and in which order.
func TestP193Wrong(t *testing.T) {
	h := newHouse(t)
	f := group.FaceOf(h.link)
	foreign, gone := f, group.FaceOf(lastOf(h.do(h.a, client.Op{Kind: api.StRevoke, A: 9}, 40)))
	foreign.Group = -3
	wiped := api.Device{Number: 9}
	busy := h.must(client.Rejoin(h.s, wiped, f, 0, 0, 41))
	for what, c := range map[string]struct {
		d                api.Device
		f                api.Face
		done, mail, draw int
		want             api.Errno
	}{
		"may not be": {api.Device{Number: -8}, f, 0, 0, 0, api.ErrArg}, "done": {wiped, f, -1, 0, 0, api.ErrArg}, "mail": {wiped, f, 0, -1, 0, api.ErrArg},
		"draw": {wiped, f, 0, 0, -1, api.ErrArg}, "another account": {wiped, foreign, 0, 0, 0, api.ErrArg}, "a conversation": {wiped, group.FaceOf(h.invited), 0, 0, 0, api.ErrArg},
		"in": {h.b, f, 0, 0, 0, api.ErrTwice}, "in, another account": {h.b, foreign, 0, 0, 0, api.ErrArg}, "in, done": {h.b, f, math.MinInt, 0, 0, api.ErrArg},
		"in, and all else": {set(busy, func(d *api.Device) { d.In, d.First, d.Out, d.States = true, 1, true, h.b.States }), gone, 0, 0, 0, api.ErrTwice},
		"a First":          {h.late, f, 0, 0, 0, api.ErrRule}, "a First, and out": {api.Device{Number: 9, First: -1, Out: true}, gone, 0, 0, 0, api.ErrRule},
		"a First, busy": {set(busy, func(d *api.Device) { d.First = 1 }), f, 0, 0, 0, api.ErrRule},
		"out":           {api.Device{Number: 9, Out: true}, f, 0, 0, 0, api.ErrOut}, "not in the face": {wiped, gone, 0, 0, 0, api.ErrOut},
		"never in":   {api.Device{Number: 15}, f, 0, 0, 0, api.ErrOut},
		"out, busy":  {set(busy, func(d *api.Device) { d.Out = true }), f, 0, 0, 0, api.ErrOut},
		"gone, busy": {busy, gone, 0, 0, 0, api.ErrOut}, "busy": {busy, f, 0, 0, 0, api.ErrBusy},
		"no tree": {wiped, api.Face{Group: -2}, 0, 0, 0, api.ErrOut},
		// What group says of the face.
		"no Pub":        {wiped, set(f, func(f *api.Face) { f.Pub = 0 }), 0, 0, 0, api.ErrArg},
		"no such key":   {wiped, set(copied(f), func(f *api.Face) { f.Tree.Nodes[0].Pub = 1 << 19 }), 0, 0, 0, api.ErrArg},
		"an epoch < 0":  {wiped, set(f, func(f *api.Face) { f.Epoch = -1 }), 0, 0, 0, api.ErrArg},
		"the last draw": {wiped, f, 0, 0, math.MaxInt, api.ErrArg},
	} {
		refused(t, h.s, what, c.want, func() (api.Device, api.Errno) { return client.Rejoin(h.s, c.d, c.f, c.done, c.mail, c.draw) })
		for _, s := range lost() {
			refused(t, s, what, api.ErrNil, func() (api.Device, api.Errno) { return client.Rejoin(s, c.d, c.f, c.done, c.mail, c.draw) })
		}
	}
}
