package client_test

import (
	"maps"
	"slices"
	"testing"

	"phratry/account"
	"phratry/api"
	"phratry/chain"
	"phratry/client"
	"phratry/group"
	"phratry/tree"
)

// reading is a device as the document says it, read plainly: its lists as maps.
type reading struct {
	bench
	d      api.Device
	past   map[int]int
	states map[int]api.State
	waits  map[int]api.Pending
	cards  map[int]api.Card
	faces  map[int]api.Face
}

func (b bench) read(d api.Device) *reading {
	r := &reading{b, copied(d), map[int]int{}, map[int]api.State{}, map[int]api.Pending{}, map[int]api.Card{}, map[int]api.Face{}}
	for _, p := range r.d.Past {
		r.past[p.Epoch] = p.Secret
	}
	for _, st := range r.d.States {
		r.states[st.Group] = st
	}
	for _, p := range r.d.Waits {
		r.waits[p.Commit.Group] = p
	}
	for _, c := range r.d.Cards {
		r.cards[c.User] = c
	}
	for _, f := range r.d.Faces {
		r.faces[f.Group] = f
	}
	return r
}

// rising are the things of a map by their keys.
func rising[T any](m map[int]T) (l []T) {
	for _, k := range slices.Sorted(maps.Keys(m)) {
		l = append(l, m[k])
	}
	return l
}

func (r *reading) device() api.Device {
	r.d.Past = nil
	for _, e := range slices.Sorted(maps.Keys(r.past)) {
		r.d.Past = append(r.d.Past, api.Past{Epoch: e, Secret: r.past[e]})
	}
	r.d.States, r.d.Waits, r.d.Cards, r.d.Faces = rising(r.states), rising(r.waits), rising(r.cards), rising(r.faces)
	return r.d
}

func (r *reading) user() int { return r.d.Number / 8 }

func (r *reading) home() int { return -1 - r.d.Number/8 }

func (r *reading) in(t api.Tree, member int) bool { return slices.Contains(tree.Members(t), member) }

func (r *reading) request(q api.Request) {
	q.Seq = r.d.Seq
	r.d.Outbox, r.d.Seq = append(r.d.Outbox, q), r.d.Seq+1
}

// commit composes one: on a state, or on a face, or, if there is neither, the first one.
func (r *reading) commit(g, draw int, adds []api.Add, removes []int, face *api.Face) api.Errno {
	st, epoch := r.states[g], r.states[g].Epoch+1
	_, held := r.states[g]
	if face != nil {
		epoch = face.Epoch + 1
	} else if !held {
		epoch = 0
	}
	p := group.Plan{By: r.d.Number, Member: r.d.Number, Adds: adds, Removes: removes}
	if g < 0 {
		p.Seed = r.rand(draw)
	} else {
		p = r.plan(r.device(), g, epoch, adds, removes)
	}
	var next api.State
	var c api.Commit
	var e api.Errno
	switch {
	case face != nil:
		p.Removes, p.Entry = nil, r.rand(draw+1)
		next, c, e = group.External(r.s, *face, p)
	case held:
		next, c, e = group.Commit(r.s, st, p)
	default:
		next, c, e = group.Create(r.s, g, p)
	}
	if e != api.OK {
		return e
	}
	if g < 0 {
		c.Card = r.card(next.Now.Export)
	}
	r.waits[g] = api.Pending{Commit: c, State: next}
	r.request(api.Request{Kind: api.RqCommit, Commit: c})
	return api.OK
}

// do is an op whose numbers may be.
func (r *reading) do(op client.Op, draw int) api.Errno {
	if !r.d.In || r.d.Out {
		return api.ErrOut
	}
	switch op.Kind {
	case api.StLink, api.StRevoke:
		return r.doAccount(op, draw)
	case api.StCreate:
		return r.commit(op.A, draw, nil, nil, nil)
	case api.StAsk:
		r.request(api.Request{Kind: api.RqAsk, N: op.A})
		return api.OK
	case api.StFace:
		r.request(api.Request{Kind: api.RqFace, N: op.A})
		return api.OK
	case api.StEnter:
		return r.doEnter(op, draw)
	case api.StNote:
		return r.doNote(op)
	}
	return r.doConversation(op, draw)
}

func (r *reading) doAccount(op client.Op, draw int) api.Errno {
	g := r.home()
	_, busy := r.waits[g]
	link := op.Kind == api.StLink
	switch {
	case link && busy:
		return api.ErrBusy
	case link && len(tree.Members(r.states[g].Tree)) >= 8:
		return api.ErrLimit
	case link:
		return r.commit(g, draw, []api.Add{{Member: op.A, Pub: op.Pub}}, nil, nil)
	case op.A == r.d.Number:
		return api.ErrRule
	case !r.in(r.states[g].Tree, op.A):
		return api.ErrGone
	case busy:
		return api.ErrBusy
	}
	return r.commit(g, draw, nil, []int{op.A}, nil)
}

func (r *reading) doConversation(op client.Op, draw int) api.Errno {
	st, holds := r.states[op.A]
	_, busy := r.waits[op.A]
	if !holds || op.A < 0 {
		return api.ErrGone
	}
	if busy {
		return api.ErrBusy
	}
	card, known := r.cards[op.B]
	switch in := r.in(st.Tree, op.B); {
	case op.Kind == api.StRefresh:
		return r.commit(op.A, draw, nil, nil, nil)
	case op.Kind == api.StExpel && op.B == r.user():
		return api.ErrRule
	case op.Kind == api.StExpel && !in:
		return api.ErrGone
	case op.Kind == api.StExpel:
		return r.commit(op.A, draw, nil, []int{op.B}, nil)
	case in:
		return api.ErrTwice
	case !known:
		return api.ErrKey
	case len(tree.Members(st.Tree)) >= 8:
		return api.ErrLimit
	}
	return r.commit(op.A, draw, []api.Add{{Member: op.B, Epoch: card.Epoch, Pub: card.Pub}}, nil, nil)
}

func (r *reading) doEnter(op client.Op, draw int) api.Errno {
	_, holds := r.states[op.A]
	_, busy := r.waits[op.A]
	f, known := r.faces[op.A]
	switch {
	case holds:
		return api.ErrTwice
	case busy:
		return api.ErrBusy
	case !known:
		return api.ErrKey
	case !r.in(f.Tree, r.user()):
		return api.ErrOut
	}
	return r.commit(op.A, draw, nil, []int{r.user()}, &f)
}

func (r *reading) doNote(op client.Op) api.Errno {
	st, holds := r.states[op.A]
	if !holds || op.A < 0 {
		return api.ErrGone
	}
	key, e := chain.Key(r.s, st.Now.App, r.d.Number, st.Sent)
	if e != api.OK {
		return e
	}
	n := api.Note{Group: op.A, Epoch: st.Epoch, By: r.d.Number, N: st.Sent, Term: r.put(sealed(key, r.put(data(int64(op.B)))))}
	st.Sent++
	r.states[op.A] = st
	r.request(api.Request{Kind: api.RqNote, Note: n})
	return api.OK
}

func (r *reading) take(m api.Mail) api.Errno {
	r.d.Cursor++
	if r.d.Out {
		return api.OK
	}
	switch m.Kind {
	case api.MlCommit:
		return r.takeCommit(m.Commit)
	case api.MlNo:
		if p, waits := r.waits[m.Group]; waits && p.Commit.Epoch == m.Epoch {
			delete(r.waits, m.Group)
		}
	case api.MlCard:
		if old, there := r.cards[m.Card.User]; !there || old.Epoch <= m.Card.Epoch {
			r.cards[m.Card.User] = m.Card
		}
	case api.MlFace:
		if old, there := r.faces[m.Face.Group]; !there || old.Epoch <= m.Face.Epoch {
			r.faces[m.Face.Group] = m.Face
		}
	case api.MlNote:
		return r.takeNote(m.Note)
	}
	return api.OK
}

func (r *reading) takeNote(n api.Note) api.Errno {
	st, holds := r.states[n.Group]
	if !holds || st.Epoch != n.Epoch {
		return api.OK
	}
	key, e := chain.Key(r.s, st.Now.App, n.By, n.N)
	if e != api.OK {
		return e
	}
	seal, _ := r.s.Get(n.Term)
	text, _ := r.s.Get(seal.B)
	if seal.Kind != api.TmSeal || seal.A != key && seal.A != r.pubOf(key) || text.Kind != api.TmData {
		return api.ErrKey
	}
	r.d.Inbox = append(r.d.Inbox, api.Got{Group: n.Group, Epoch: n.Epoch, By: n.By, N: n.N, Text: int(text.N)})
	return api.OK
}

func (r *reading) takeCommit(c api.Commit) api.Errno {
	e := api.OK
	p, waits := r.waits[c.Group]
	if waits && tell(p.Commit) == tell(c) {
		r.comes(p.State)
	} else if c.Group == r.home() {
		e = r.takeAccount(c)
	} else if c.Group >= 0 {
		e = r.takeConversation(c)
	}
	if waits && c.Epoch >= p.Commit.Epoch {
		delete(r.waits, c.Group)
	}
	return e
}

// comes: the device has a new state.
func (r *reading) comes(st api.State) {
	r.states[st.Group] = st
	if st.Group == r.home() {
		r.d.In = true
		r.past[st.Epoch] = st.Now.Export
	}
}

func (r *reading) comesBy(st api.State, e api.Errno) api.Errno {
	if e == api.OK {
		r.comes(st)
	}
	return e
}

func (r *reading) takeAccount(c api.Commit) api.Errno {
	st, holds := r.states[c.Group]
	me := r.d.Number
	if holds && c.Epoch == st.Epoch+1 {
		if slices.Contains(c.Removes, me) && !r.in(c.Next, me) {
			*r = *r.read(api.Device{Number: me, Out: true, Seq: r.d.Seq, Cursor: r.d.Cursor, Inbox: r.d.Inbox})
			return api.OK
		}
		return r.comesBy(group.Follow(r.s, st, c))
	}
	for _, j := range c.Joins {
		if j.Member == me && !r.d.In && r.d.First != 0 {
			return r.comesBy(group.Enter(r.s, c, me, r.d.First))
		}
	}
	return api.OK
}

func (r *reading) takeConversation(c api.Commit) api.Errno {
	st, holds := r.states[c.Group]
	user, removed := r.user(), slices.Contains(c.Removes, r.user()) && !r.in(c.Next, r.user())
	secret, known := r.past[c.KeyEpoch]
	if holds && c.Epoch != st.Epoch+1 {
		return api.OK
	}
	switch {
	case holds && (removed || c.Member == user && !known):
		delete(r.states, c.Group)
	case c.Member == user && known:
		own, e := account.Own(r.s, secret)
		if e != api.OK {
			return e
		}
		return r.comesBy(group.Own(r.s, c, own))
	case holds:
		return r.comesBy(group.Follow(r.s, st, c))
	default:
		return r.comesIn(c)
	}
	return api.OK
}

// comesIn: by a card, if a Join is for the user.
func (r *reading) comesIn(c api.Commit) api.Errno {
	for _, j := range c.Joins {
		for _, a := range c.Adds {
			secret, known := r.past[a.Epoch]
			if j.Member != r.user() || a.Member != r.user() || !known {
				continue
			}
			key, _, e := account.Card(r.s, secret)
			if e != api.OK {
				return e
			}
			return r.comesBy(group.Enter(r.s, c, r.user(), key))
		}
	}
	return api.OK
}

// owes are the conversations that it owes.
func (r *reading) owes() (l []int) {
	for _, g := range slices.Sorted(maps.Keys(r.states)) {
		t := r.states[g].Tree
		for leaf := 0; leaf < len(t.Nodes); leaf += 2 {
			n := t.Nodes[leaf]
			if g >= 0 && r.d.In && !r.d.Out && n.Pub != 0 && n.Member == r.user() && n.Epoch < r.states[r.home()].Epoch {
				l = append(l, g)
			}
		}
	}
	return l
}

func (r *reading) work() api.Errno {
	for _, g := range r.owes() {
		if _, busy := r.waits[g]; !busy {
			if e := r.commit(g, 0, nil, nil, nil); e != api.OK {
				return e
			}
		}
	}
	return api.OK
}

// rejoin is of a device that has nothing, and a face of its account, by right numbers.
func (r *reading) rejoin(f api.Face, done, mail, draw int) api.Errno {
	r.d.Outbox, r.d.Seq, r.d.Cursor = nil, done, mail
	return r.commit(f.Group, draw, nil, []int{r.d.Number}, &f)
}

// agree holds what a call answers against the reading of it. (The call is first: what it lacks is not there yet.)
func (b bench) agree(what string, d api.Device, call func() (api.Device, api.Errno), plain func(*reading) api.Errno) (api.Device, api.Errno) {
	b.t.Helper()
	before, many := tell(d), b.s.Len()
	got, e := call()
	left := b.s.Len()
	r := b.read(d)
	if want := plain(r); e != want {
		b.t.Fatal(what, "answers", int(e), "not", int(want))
	}
	if e == api.OK {
		same(b.t, what, got, r.device())
		same(b.t, what+": Number", got.Number, d.Number)
	} else if tell(got) != tell(api.Device{}) || left != many {
		b.t.Fatal(what, "leaves something with an error", left-many)
	}
	same(b.t, what+" changes", tell(d), before)
	return got, e
}

func (b bench) agreeDo(d api.Device, op client.Op, draw int) (api.Device, api.Errno) {
	b.t.Helper()
	return b.agree("Do "+tell(op), d, func() (api.Device, api.Errno) { return client.Do(b.s, d, op, draw) },
		func(r *reading) api.Errno { return r.do(op, draw) })
}

func (b bench) agreeTake(d api.Device, m api.Mail) (api.Device, api.Errno) {
	b.t.Helper()
	return b.agree("Take "+tell(m.Kind), d, func() (api.Device, api.Errno) { return client.Take(b.s, d, m) },
		func(r *reading) api.Errno { return r.take(m) })
}

func (b bench) agreeWork(d api.Device) (api.Device, api.Errno) {
	b.t.Helper()
	same(b.t, "Owes", client.Owes(d), b.read(d).owes())
	return b.agree("Work", d, func() (api.Device, api.Errno) { return client.Work(b.s, d) }, (*reading).work)
}

func (b bench) agreeRejoin(d api.Device, f api.Face, done, mail, draw int) (api.Device, api.Errno) {
	b.t.Helper()
	return b.agree("Rejoin", d, func() (api.Device, api.Errno) { return client.Rejoin(b.s, d, f, done, mail, draw) },
		func(r *reading) api.Errno { return r.rejoin(f, done, mail, draw) })
}

// TestPlain: the reading itself answers what the chapter's examples say.
func TestPlain(t *testing.T) {
	h := newHouse(t)
	r := h.read(h.a)
	same(t, "owes", r.owes(), []int{5})
	same(t, "refresh", r.do(client.Op{Kind: api.StRefresh, A: 1}, 0), api.ErrGone)
	same(t, "revoke", r.do(client.Op{Kind: api.StRevoke, A: 8}, 0), api.ErrRule)
	same(t, "as it was", r.device(), h.a)
}
