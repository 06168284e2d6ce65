package client

import (
	"slices"

	"phratry/account"
	"phratry/alike"
	"phratry/api"
	"phratry/fresh"
	"phratry/group"
	"phratry/hold"
	"phratry/term"
	"phratry/tree"
)

// taker is what is done with mail of a kind; none, if there is no such kind.
func taker(kind api.MailKind) func(*hand, api.Mail) api.Errno {
	if table := takers(); int(kind) < len(table) {
		return table[kind]
	}
	return nil
}

func takers() [api.MlNote + 1]func(*hand, api.Mail) api.Errno {
	return [...]func(*hand, api.Mail) api.Errno{
		api.MlCommit: (*hand).takeCommit,
		api.MlNo:     (*hand).takeNo,
		api.MlCard:   (*hand).takeCard,
		api.MlFace:   (*hand).takeFace,
		api.MlNote:   (*hand).takeNote,
	}
}

func (h *hand) takeCommit(m api.Mail) (e api.Errno) {
	c := m.Commit
	p, waits := waitOf(h.own, c.Group)
	mine := c.Group == accountOf(h.own)
	switch {
	case waits && alike.Commit(p.Commit, c) && mine:
		e = h.keepAccount(p.State, api.OK)
	case waits && alike.Commit(p.Commit, c):
		// In whatever group, another user's account too: the device has made the state itself.
		e = h.keep(p.State, api.OK)
	case mine:
		e = h.inAccount(c)
	case c.Group >= 0:
		e = h.inConversation(c)
	}
	if e != api.OK {
		return e
	}
	if waits && c.Epoch >= p.Commit.Epoch {
		h.waitNoMore(c.Group)
	}
	return api.OK
}

// inAccount takes a commit of its account for which the device does not wait.
func (h *hand) inAccount(c api.Commit) api.Errno {
	st, held := stateOf(h.own, c.Group)
	me := h.own.Number
	switch {
	case held && st.Epoch+1 == c.Epoch:
		if goesOut(c, me) {
			h.goOut()
			return api.OK
		}
		return h.keepAccount(group.Follow(h.terms, st, c))
	case !h.own.In && h.own.First != 0 && joins(c, me):
		return h.keepAccount(group.Enter(h.terms, c, me, h.own.First))
	}
	return api.OK
}

// inConversation takes a commit of a conversation for which the device does not wait.
func (h *hand) inConversation(c api.Commit) api.Errno {
	st, held := stateOf(h.own, c.Group)
	switch {
	case held && st.Epoch+1 == c.Epoch:
		return h.goOn(st, c)
	case !held:
		return h.comeIn(c)
	}
	return api.OK
}

// goOn takes a commit of a conversation that the device holds at the epoch before.
func (h *hand) goOn(st api.State, c api.Commit) api.Errno {
	user := userOf(h.own)
	secret, known := secretOf(h.own, c.KeyEpoch)
	switch {
	case goesOut(c, user) || c.Member == user && !known:
		h.lose(c.Group)
		return api.OK
	case c.Member == user:
		return h.keep(byOwn(h.terms, c, secret))
	}
	return h.keep(group.Follow(h.terms, st, c))
}

// comeIn takes a commit of a conversation that the device does not hold.
func (h *hand) comeIn(c api.Commit) api.Errno {
	user := userOf(h.own)
	if secret, known := secretOf(h.own, c.KeyEpoch); known && c.Member == user {
		return h.keep(byOwn(h.terms, c, secret))
	}
	add, added := find(c.Adds, func(a api.Add) int { return a.Member }, user)
	if secret, known := secretOf(h.own, add.Epoch); added && known && joins(c, user) {
		return h.keep(byCard(h.terms, c, add, secret))
	}
	return api.OK
}

// goesOut: does a member go out by a commit, and does not come in by it?
func goesOut(c api.Commit, member int) bool {
	return slices.Contains(c.Removes, member) && tree.Find(c.Next, member) < 0
}

// joins: is a Join of a commit for a member?
func joins(c api.Commit, member int) bool {
	return slices.ContainsFunc(c.Joins, func(j api.Join) bool { return j.Member == member })
}

// byOwn is the state behind a commit of another device of the user, by what an epoch of their account has handed out.
func byOwn(s *term.Store, c api.Commit, secret int) (api.State, api.Errno) {
	// Who has sealed it has made the key: where that is not there, it does not open.
	opener, _, _ := hold.Seal(s, c.Own)
	a := hold.NewAside()
	key, e := account.Own(a.Terms, a.StandIn(secret))
	return hold.Careful(s, e == api.OK && a.Means(key, s, opener), 0, func(s *term.Store) (api.State, api.Errno) {
		key, e := account.Own(s, secret)
		if e != api.OK {
			return api.State{}, e
		}
		return group.Own(s, c, key)
	})
}

// byCard is the state behind a commit by which the user comes in, by what the epoch of its card has handed out.
func byCard(s *term.Store, c api.Commit, add api.Add, secret int) (api.State, api.Errno) {
	// The user has told its card: so the keys are there, unless it is a wrong one.
	a := hold.NewAside()
	_, pub, e := account.Card(a.Terms, a.StandIn(secret))
	return hold.Careful(s, e == api.OK && a.Means(pub, s, add.Pub), 0, func(s *term.Store) (api.State, api.Errno) {
		key, _, e := account.Card(s, secret)
		if e != api.OK {
			return api.State{}, e
		}
		return group.Enter(s, c, add.Member, key)
	})
}

func (h *hand) takeNo(m api.Mail) api.Errno {
	if p, waits := waitOf(h.own, m.Group); waits && p.Commit.Epoch == m.Epoch {
		h.waitNoMore(m.Group)
	}
	return api.OK
}

func (h *hand) takeCard(m api.Mail) api.Errno {
	if old, there := find(h.own.Cards, userOfCard, m.Card.User); !there || m.Card.Epoch >= old.Epoch {
		h.own.Cards = with(h.own.Cards, userOfCard, m.Card)
	}
	return api.OK
}

func (h *hand) takeFace(m api.Mail) api.Errno {
	if old, there := find(h.own.Faces, groupOfFace, m.Face.Group); !there || m.Face.Epoch >= old.Epoch {
		h.own.Faces = with(h.own.Faces, groupOfFace, fresh.Face(m.Face))
	}
	return api.OK
}
