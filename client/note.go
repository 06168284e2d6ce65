package client

import (
	"phratry/api"
	"phratry/chain"
	"phratry/hold"
	"phratry/term"
)

func (h *hand) note(op Op) api.Errno {
	st, held := conversation(h.own, op.A)
	if !held {
		return api.ErrGone
	}
	n := api.Note{Group: st.Group, Epoch: st.Epoch, By: h.own.Number, N: st.Sent}
	var e api.Errno
	if n.Term, e = sealed(h.terms, st.Now.App, n, op.B); e != api.OK {
		return e
	}
	st.Sent++
	h.own.States = with(h.own.States, groupOfState, st)
	h.ask(api.Request{Kind: api.RqNote, Note: n})
	return api.OK
}

// sealed is a number under the key of a note.
func sealed(s *term.Store, app int, n api.Note, number int) (int, api.Errno) {
	// Behind the key, which takes N + 3 terms, come the number and the seal.
	return hold.Whole(s, n.N+5, func(s *term.Store) (int, api.Errno) {
		key, e := chain.Key(s, app, n.By, n.N)
		if e != api.OK {
			return 0, e
		}
		text, e := s.Data(int64(number))
		if e != api.OK {
			return 0, e
		}
		return s.Make(api.Term{Kind: api.TmSeal, A: key, B: text})
	})
}

func (h *hand) takeNote(m api.Mail) api.Errno {
	n := m.Note
	st, held := stateOf(h.own, n.Group)
	if !held || st.Epoch != n.Epoch {
		return api.OK
	}
	text, e := opened(h.terms, st.Now.App, n)
	if e != api.OK {
		return e
	}
	h.own.Inbox = append(h.own.Inbox, api.Got{Group: n.Group, Epoch: n.Epoch, By: n.By, N: n.N, Text: text})
	return api.OK
}

// opened is the number that was told by a note. Its key is worked out aside: if the note is a right one, whoever has
// sealed it has made that, and else it is to leave nothing behind.
func opened(s *term.Store, app int, n api.Note) (int, api.Errno) {
	if !hold.Has(s, app) {
		return 0, api.ErrArg
	}
	a := hold.NewAside()
	key, e := chain.Key(a.Terms, a.StandIn(app), n.By, n.N)
	if e != api.OK {
		return 0, e
	}
	opener, inside, ok := hold.Seal(s, n.Term)
	text, _ := s.Get(inside)
	if !ok || !a.Means(key, s, opener) || text.Kind != api.TmData {
		return 0, api.ErrKey
	}
	return int(text.N), api.OK
}
