package group

import (
	"phratry/api"
	"phratry/fresh"
	"phratry/hold"
	"phratry/index"
	"phratry/path"
	"phratry/sched"
	"phratry/term"
	"phratry/tree"
)

// mostLeft: of a commit whose Face is right fewer terms than these are still to be made. (Init, Export and App, if nobody
// has made them, and the secret behind a path.)
const mostLeft = 8

// initBefore is what the secrets of a commit's epoch begin with, as a member has it.
func initBefore(s *term.Store, st api.State, c api.Commit) (int, bool) {
	if c.External {
		return opened(s, c.Entry, st.Now.Outer)
	}
	return st.Now.Init, true
}

// followed is the epoch of a commit whose Next is right, as the member of a leaf of it has it.
func followed(s *term.Store, st api.State, c api.Commit, leaf, init int) (api.State, api.Errno) {
	// The Face is looked at ahead of what is opened: either is ErrKey, and with a right one there is nothing more to make of
	// the path, so that what does not open leaves the store as it was.
	last := lastSecret(s, c.Next, leaf)
	right := faceIsRight(s, c, func(a hold.Aside, context int) (api.Secrets, api.Errno) {
		row, e := path.Secrets(a.Terms, a.StandIn(last), 1)
		if e != api.OK {
			return api.Secrets{}, e
		}
		return sched.Next(a.Terms, a.StandIn(init), row[1], context)
	})
	if !right {
		return api.State{}, api.ErrKey
	}
	return hold.Whole(s, mostLeft, func(s *term.Store) (api.State, api.Errno) {
		keys, secret, e := path.Open(s, c.Next, tree.Find(c.Next, c.Member), leaf, st.Keys, c.Seals)
		if e != api.OK {
			return api.State{}, e
		}
		now, e := nextSecrets(s, c.Group, c.Epoch, c.Next, init, secret)
		if e != api.OK {
			return api.State{}, e
		}
		return stateBehind(c, st.Member, keys, now), api.OK
	})
}

// lastSecret is the secret of the highest node above a leaf that is not blank, as its Pub tells it: behind that comes the
// commit's. (Of a Pub that tells none it is any number; path.Open refuses that Pub.)
func lastSecret(s *term.Store, t api.Tree, leaf int) int {
	pub := 0
	for _, x := range index.Direct(2*leaf, tree.Size(t)) {
		if t.Nodes[x].Pub != 0 {
			pub = t.Nodes[x].Pub
		}
	}
	p, _ := s.Get(pub)
	key, _ := s.Get(p.A)
	return key.A
}

// welcomed is the epoch of a commit as one has it who was handed its Joiner, and the secret of a node.
func welcomed(s *term.Store, c api.Commit, member, joiner int, from api.Key) (api.State, api.Errno) {
	// The Face is looked at first, as a member does who follows.
	right := faceIsRight(s, c, func(a hold.Aside, context int) (api.Secrets, api.Errno) {
		return sched.From(a.Terms, a.StandIn(joiner), context)
	})
	if !right {
		return api.State{}, api.ErrKey
	}
	return hold.Whole(s, mostLeft, func(s *term.Store) (api.State, api.Errno) {
		keys, _, e := path.Above(s, c.Next, from.Node, from.Secret)
		if e != api.OK {
			return api.State{}, e
		}
		context, e := sched.Context(s, c.Group, c.Epoch, c.Next)
		if e != api.OK {
			return api.State{}, e
		}
		now, e := sched.From(s, joiner, context)
		if e != api.OK {
			return api.State{}, e
		}
		return stateBehind(c, member, keys, now), api.OK
	})
}

// stateBehind is what a member of Next has behind a commit.
func stateBehind(c api.Commit, member int, keys []api.Key, now api.Secrets) api.State {
	return api.State{
		Group: c.Group, Epoch: c.Epoch, Member: member, Leaf: tree.Find(c.Next, member),
		Tree: fresh.Tree(c.Next), Keys: keys, Now: now,
	}
}
