package group

import (
	"slices"

	"phratry/api"
	"phratry/fresh"
	"phratry/path"
	"phratry/sched"
	"phratry/term"
	"phratry/tree"
)

// mostMade: who makes a commit makes fewer terms than these. (Some 20 of a path of 8 leaves, 144 of the longest context,
// 7 secrets of the epoch, 2 of each Join and of Own, Face, Entry, data of 0.)
const mostMade = 256

// change is what makes an epoch: a plan, and what comes of it ahead of the path.
type change struct {
	plan         Plan
	group, epoch int
	tree         api.Tree
	leaf         int   // the maker's
	fresh        []int // those of Adds
}

// made is the epoch, and the commit, by Init before.
func (x change) made(s *term.Store, init int) (api.Pending, api.Errno) {
	p := x.plan
	next, keys, seals, secret, e := path.Make(s, x.tree, x.leaf, p.KeyEpoch, p.Seed, x.fresh)
	if e != api.OK {
		return api.Pending{}, e
	}
	now, e := nextSecrets(s, x.group, x.epoch, next, init, secret)
	if e != api.OK {
		return api.Pending{}, e
	}
	st := api.State{Group: x.group, Epoch: x.epoch, Member: p.Member, Leaf: x.leaf, Tree: next, Keys: keys, Now: now}
	c, e := x.commit(s, st)
	if e != api.OK {
		return api.Pending{}, e
	}
	c.Seals = seals
	return api.Pending{Commit: c, State: st}, api.OK
}

// madeOutside is the epoch, and the commit, by one who has but a face of the one before.
func (x change) madeOutside(s *term.Store, f api.Face) (api.Pending, api.Errno) {
	w, e := x.made(s, x.plan.Entry)
	if e != api.OK {
		return api.Pending{}, e
	}
	w.Commit.External = true
	if tree.Find(f.Tree, x.plan.Member) >= 0 {
		w.Commit.Removes = []int{x.plan.Member}
	}
	if w.Commit.Entry, e = s.Make(sealed(f.Pub, x.plan.Entry)); e != api.OK {
		return api.Pending{}, e
	}
	return w, api.OK
}

// commit is what all others are told of a new state, but for the path's seals.
func (x change) commit(s *term.Store, st api.State) (api.Commit, api.Errno) {
	p := x.plan
	c := api.Commit{
		Group: st.Group, Epoch: st.Epoch, By: p.By, Member: p.Member, KeyEpoch: p.KeyEpoch,
		Adds: slices.Clone(p.Adds), Removes: slices.Clone(p.Removes), Next: fresh.Tree(st.Tree),
	}
	var e api.Errno
	if c.Face, e = s.Make(public(st.Now.Outer)); e != api.OK {
		return api.Commit{}, e
	}
	if c.Joins, e = x.joins(s, st); e != api.OK {
		return api.Commit{}, e
	}
	if p.Own == 0 {
		return c, api.OK
	}
	if c.Own, e = sealedPair(s, p.Own, st.Now.Joiner, p.Seed); e != api.OK {
		return api.Commit{}, e
	}
	return c, api.OK
}

// joins is what each of Adds opens: the Joiner, and the path's secret from which on it has all above.
func (x change) joins(s *term.Store, st api.State) ([]api.Join, api.Errno) {
	nodes, e := tree.Path(x.tree, x.leaf)
	if e != api.OK {
		return nil, e
	}
	row, e := path.Secrets(s, x.plan.Seed, len(nodes))
	if e != api.OK {
		return nil, e
	}
	var l []api.Join
	for i, a := range x.plan.Adds {
		// The joint is one of the path's nodes: below it, on the side that is not the maker's, is the new leaf.
		at := slices.Index(nodes, path.Joint(st.Tree, x.fresh[i], x.leaf))
		n, e := sealedPair(s, a.Pub, st.Now.Joiner, row[1+at])
		if e != api.OK {
			return nil, e
		}
		l = append(l, api.Join{Member: a.Member, Term: n})
	}
	return l, api.OK
}

// nextSecrets is an epoch's, by Init before and a commit's secret.
func nextSecrets(s *term.Store, group, epoch int, t api.Tree, init, commit int) (api.Secrets, api.Errno) {
	context, e := sched.Context(s, group, epoch, t)
	if e != api.OK {
		return api.Secrets{}, e
	}
	return sched.Next(s, init, commit, context)
}
