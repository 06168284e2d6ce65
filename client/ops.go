package client

import (
	"phratry/api"
	"phratry/hold"
	"phratry/may"
	"phratry/tree"
)

// doer is what is done for an op; none, if there is no such op.
func doer(kind api.StepKind) func(*hand, Op) api.Errno {
	if table := doers(); int(kind) < len(table) {
		return table[kind]
	}
	return nil
}

func doers() [api.StEnter + 1]func(*hand, Op) api.Errno {
	return [...]func(*hand, Op) api.Errno{
		api.StLink:    (*hand).link,
		api.StRevoke:  (*hand).revoke,
		api.StCreate:  (*hand).create,
		api.StInvite:  (*hand).invite,
		api.StExpel:   (*hand).expel,
		api.StRefresh: (*hand).refresh,
		api.StAsk:     (*hand).askCard,
		api.StNote:    (*hand).note,
		api.StFace:    (*hand).askFace,
		api.StEnter:   (*hand).enter,
	}
}

func (h *hand) link(op Op) api.Errno {
	st, _ := stateOf(h.own, accountOf(h.own))
	itsUsers := may.Device(op.A) && op.A/api.MaxDevices == userOf(h.own)
	switch {
	case !hold.Has(h.terms, op.Pub) || !itsUsers || tree.Find(st.Tree, op.A) >= 0:
		return api.ErrArg
	case waitsIn(h.own, st.Group):
		return api.ErrBusy
	case len(tree.Members(st.Tree)) >= api.MaxDevices:
		return api.ErrLimit
	}
	return h.compose(h.next(st, []api.Add{{Member: op.A, Pub: op.Pub}}, nil), api.RqCommit)
}

func (h *hand) revoke(op Op) api.Errno {
	st, _ := stateOf(h.own, accountOf(h.own))
	switch {
	case op.A == h.own.Number:
		return api.ErrRule
	case tree.Find(st.Tree, op.A) < 0:
		return api.ErrGone
	case waitsIn(h.own, st.Group):
		return api.ErrBusy
	}
	return h.compose(h.next(st, nil, []int{op.A}), api.RqCommit)
}

func (h *hand) create(op Op) api.Errno {
	if _, held := conversation(h.own, op.A); !may.Conversation(op.A) || held || waitsIn(h.own, op.A) {
		return api.ErrArg
	}
	return h.compose(h.begun(op.A), api.RqCommit)
}

// ready is the state of a conversation in which the device may make a commit, or why there is none.
func (h *hand) ready(g int) (api.State, api.Errno) {
	st, held := conversation(h.own, g)
	if !held {
		return api.State{}, api.ErrGone
	}
	if waitsIn(h.own, g) {
		return api.State{}, api.ErrBusy
	}
	return st, api.OK
}

func (h *hand) invite(op Op) api.Errno {
	st, e := h.ready(op.A)
	if e != api.OK {
		return e
	}
	card, known := find(h.own.Cards, userOfCard, op.B)
	switch {
	case tree.Find(st.Tree, op.B) >= 0:
		return api.ErrTwice
	case !known:
		return api.ErrKey
	case len(tree.Members(st.Tree)) >= api.MaxLeaves:
		return api.ErrLimit
	}
	return h.compose(h.next(st, []api.Add{{Member: op.B, Epoch: card.Epoch, Pub: card.Pub}}, nil), api.RqCommit)
}

func (h *hand) expel(op Op) api.Errno {
	st, e := h.ready(op.A)
	switch {
	case e != api.OK:
		return e
	case op.B == userOf(h.own):
		return api.ErrRule
	case tree.Find(st.Tree, op.B) < 0:
		return api.ErrGone
	}
	return h.compose(h.next(st, nil, []int{op.B}), api.RqCommit)
}

func (h *hand) refresh(op Op) api.Errno {
	st, e := h.ready(op.A)
	if e != api.OK {
		return e
	}
	return h.compose(h.next(st, nil, nil), api.RqCommit)
}

func (h *hand) askCard(op Op) api.Errno {
	if !may.User(op.A) {
		return api.ErrArg
	}
	h.ask(api.Request{Kind: api.RqAsk, N: op.A})
	return api.OK
}

func (h *hand) askFace(op Op) api.Errno {
	if !may.Conversation(op.A) {
		return api.ErrArg
	}
	h.ask(api.Request{Kind: api.RqFace, N: op.A})
	return api.OK
}

func (h *hand) enter(op Op) api.Errno {
	if op.A < 0 {
		return api.ErrKey
	}
	_, held := stateOf(h.own, op.A)
	face, known := find(h.own.Faces, groupOfFace, op.A)
	switch {
	case held:
		return api.ErrTwice
	case waitsIn(h.own, op.A):
		return api.ErrBusy
	case !known:
		return api.ErrKey
	case tree.Find(face.Tree, userOf(h.own)) < 0:
		return api.ErrOut
	}
	return h.compose(h.back(face), api.RqCommit)
}
