package client

import (
	"math"

	"phratry/account"
	"phratry/api"
	"phratry/fresh"
	"phratry/group"
	"phratry/hold"
	"phratry/term"
)

// mostMade: a commit is composed with fewer terms than these. (Fewer than 256 that group makes, 60 of a Digest, 7 of a
// Seed, 2 of a Card, Own, and what is drawn.)
const mostMade = 512

// draft is a commit that is to be composed.
type draft struct {
	group, epoch int // the epoch that is made
	adds         []api.Add
	removes      []int
	sound        bool // what it goes on from is as group asks for it
	make         func(*term.Store, group.Plan) (api.State, api.Commit, api.Errno)
}

// begun is a group of its own, or an account.
func (h *hand) begun(g int) draft {
	return draft{group: g, sound: true, make: func(s *term.Store, p group.Plan) (api.State, api.Commit, api.Errno) {
		return group.Create(s, g, p)
	}}
}

// next goes on from a state.
func (h *hand) next(st api.State, adds []api.Add, removes []int) draft {
	return draft{
		group: st.Group, epoch: st.Epoch + 1, adds: adds, removes: removes,
		sound: hold.State(h.terms, st) && st.Member == h.member(st.Group),
		make: func(s *term.Store, p group.Plan) (api.State, api.Commit, api.Errno) {
			p.Adds, p.Removes = adds, removes
			return group.Commit(s, st, p)
		},
	}
}

// back goes on from a face, from outside: the old leaf goes out by that, though the plan does not name it.
func (h *hand) back(f api.Face) draft {
	return draft{
		group: f.Group, epoch: f.Epoch + 1, removes: []int{h.member(f.Group)},
		sound: hold.Face(h.terms, f) && h.draw < math.MaxInt,
		make: func(s *term.Store, p group.Plan) (st api.State, c api.Commit, e api.Errno) {
			if p.Entry, e = drawn(s, h.draw+1); e != api.OK {
				return api.State{}, api.Commit{}, e
			}
			return group.External(s, f, p)
		},
	}
}

// compose makes the commit of a draft, waits for it, and asks for it.
func (h *hand) compose(x draft, kind api.RequestKind) api.Errno {
	p, e := hold.Careful(h.terms, h.surely(x), mostMade, func(s *term.Store) (api.Pending, api.Errno) {
		return h.made(s, x)
	})
	if e != api.OK {
		return e
	}
	h.waitFor(p, kind)
	return api.OK
}

// waitFor: the device waits for a commit that it has made, and asks for it.
func (h *hand) waitFor(p api.Pending, kind api.RequestKind) {
	h.own.Waits = with(h.own.Waits, groupOfWait, p)
	h.ask(api.Request{Kind: kind, Commit: fresh.Commit(p.Commit)})
}

// refreshes composes one in each of some conversations.
func (h *hand) refreshes(groups []int) api.Errno {
	for _, g := range groups {
		st, _ := stateOf(h.own, g)
		p, e := h.made(h.terms, h.next(st, nil, nil))
		if e != api.OK {
			return e
		}
		h.waitFor(p, api.RqCommit)
	}
	return api.OK
}

// surely: is there nothing by which group or account would refuse a draft?
func (h *hand) surely(x draft) bool {
	for _, a := range x.adds {
		if a.Member < 0 || a.Epoch < 0 || !hold.Has(h.terms, a.Pub) {
			return false
		}
	}
	if x.group < 0 {
		return x.sound
	}
	home, _ := stateOf(h.own, accountOf(h.own))
	return x.sound && home.Epoch >= 0 && hold.Has(h.terms, home.Now.Export)
}

// maySurely: is there nothing by which group or account would refuse refreshes?
func (h *hand) maySurely(groups []int) bool {
	for _, g := range groups {
		if st, _ := stateOf(h.own, g); !h.surely(h.next(st, nil, nil)) {
			return false
		}
	}
	return true
}

// made is the commit of a draft, and the state behind it.
func (h *hand) made(s *term.Store, x draft) (api.Pending, api.Errno) {
	p, e := h.plan(s, x)
	if e != api.OK {
		return api.Pending{}, e
	}
	st, c, e := x.make(s, p)
	if e != api.OK {
		return api.Pending{}, e
	}
	if x.group < 0 {
		if _, c.Card, e = account.Card(s, st.Now.Export); e != api.OK {
			return api.Pending{}, e
		}
	}
	return api.Pending{Commit: c, State: st}, api.OK
}

// member is whom of a group the device stands for.
func (h *hand) member(g int) int {
	if g < 0 {
		return h.own.Number
	}
	return userOf(h.own)
}

// plan is what a commit in a group is made of, but for who comes and goes.
func (h *hand) plan(s *term.Store, x draft) (p group.Plan, e api.Errno) {
	p.By, p.Member = h.own.Number, h.member(x.group)
	if x.group < 0 {
		p.Seed, e = drawn(s, h.draw)
		return p, e
	}
	home, _ := stateOf(h.own, accountOf(h.own))
	digest, e := account.Digest(s, x.adds, x.removes)
	if e != api.OK {
		return group.Plan{}, e
	}
	p.KeyEpoch = home.Epoch
	if p.Seed, e = account.Seed(s, home.Now.Export, x.group, x.epoch, h.own.Number, digest); e != api.OK {
		return group.Plan{}, e
	}
	p.Own, e = account.Own(s, home.Now.Export)
	return p, e
}

// drawn is a new random term.
func drawn(s *term.Store, draw int) (int, api.Errno) {
	return s.Make(api.Term{Kind: api.TmRand, N: int64(draw)})
}

// keys is a secret, and its public key.
type keys struct{ secret, pub int }

func drawnKeys(s *term.Store, draw int) (k keys, e api.Errno) {
	if k.secret, e = drawn(s, draw); e != api.OK {
		return keys{}, e
	}
	if k.pub, e = s.Make(api.Term{Kind: api.TmPub, A: k.secret}); e != api.OK {
		return keys{}, e
	}
	return k, api.OK
}
