package group

import (
	"phratry/api"
	"phratry/fresh"
	"phratry/hold"
	"phratry/sched"
	"phratry/term"
)

// treeAside is a tree with stand-ins for its keys.
func treeAside(a hold.Aside, t api.Tree) api.Tree {
	next := fresh.Tree(t)
	for i, n := range next.Nodes {
		if n.Pub != 0 {
			next.Nodes[i].Pub = a.StandIn(n.Pub)
		}
	}
	return next
}

// faceIsRight: is a commit's Face the public key of Outer, of the secrets that are worked out by its context? They are so
// aside, for a wrong one is to leave nothing behind.
func faceIsRight(s *term.Store, c api.Commit, secrets func(a hold.Aside, context int) (api.Secrets, api.Errno)) bool {
	a := hold.NewAside()
	context, e := sched.Context(a.Terms, c.Group, c.Epoch, treeAside(a, c.Next))
	if e != api.OK {
		return false
	}
	now, e := secrets(a, context)
	if e != api.OK {
		return false
	}
	face, e := a.Terms.Make(public(now.Outer))
	return e == api.OK && a.Means(face, s, c.Face)
}
