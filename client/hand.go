package client

import (
	"phratry/api"
	"phratry/fresh"
	"phratry/term"
)

// hand is a device that is at work: its own copy, so that what came in stays as it was.
type hand struct {
	terms *term.Store
	own   api.Device
	draw  int
}

func handOf(s *term.Store, d api.Device, draw int) *hand {
	return &hand{terms: s, own: fresh.Device(d), draw: draw}
}

// done is what has become of the device, if there was no error.
func (h *hand) done(e api.Errno) (api.Device, api.Errno) {
	if e != api.OK {
		return api.Device{}, e
	}
	return h.own, api.OK
}

// ask puts a request behind the others.
func (h *hand) ask(r api.Request) {
	r.Seq = h.own.Seq
	h.own.Seq++
	h.own.Outbox = append(h.own.Outbox, r)
}

// keep lets the device go on to a state, if that has come about.
func (h *hand) keep(st api.State, e api.Errno) api.Errno {
	if e != api.OK {
		return e
	}
	h.own.States = with(h.own.States, groupOfState, st)
	return api.OK
}

// keepAccount is keep, of a new epoch of its account.
func (h *hand) keepAccount(st api.State, e api.Errno) api.Errno {
	if e = h.keep(st, e); e != api.OK {
		return e
	}
	h.own.In = true
	h.own.Past = append(h.own.Past, api.Past{Epoch: st.Epoch, Secret: st.Now.Export})
	return api.OK
}

// lose: the device no longer holds a group.
func (h *hand) lose(g int) { h.own.States = without(h.own.States, groupOfState, g) }

// waitNoMore: it no longer waits in a group.
func (h *hand) waitNoMore(g int) { h.own.Waits = without(h.own.Waits, groupOfWait, g) }

// goOut leaves the device with what one has that was revoked.
func (h *hand) goOut() {
	h.own = api.Device{Number: h.own.Number, Out: true, Seq: h.own.Seq, Cursor: h.own.Cursor, Inbox: h.own.Inbox}
}
