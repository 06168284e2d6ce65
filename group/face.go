package group

import (
	"phratry/api"
	"phratry/fresh"
	"phratry/sched"
	"phratry/term"
)

// aside is a store beside that of a group, in which a Face is worked out to be held against another one: so a wrong one
// leaves nothing behind. What it is worked out of stands in there: each a random term with the number that it has in the
// group's store.
type aside struct{ terms *term.Store }

func (a aside) standIn(n int) int {
	x, _ := a.terms.Make(api.Term{Kind: api.TmRand, N: int64(n)})
	return x
}

// tree is a tree with stand-ins for its keys.
func (a aside) tree(t api.Tree) api.Tree {
	next := fresh.Tree(t)
	for i, n := range next.Nodes {
		if n.Pub != 0 {
			next.Nodes[i].Pub = a.standIn(n.Pub)
		}
	}
	return next
}

// means: is a term aside, or none, what another one is in the group's store?
func (a aside) means(x int, s *term.Store, y int) bool {
	if x == 0 || y == 0 {
		return x == y
	}
	t, _ := a.terms.Get(x)
	if t.Kind == api.TmRand {
		return t.N == int64(y)
	}
	other, _ := s.Get(y)
	return t.Kind == other.Kind && t.N == other.N && a.means(t.A, s, other.A) && a.means(t.B, s, other.B)
}

// faceIsRight: is a commit's Face the public key of Outer, of the secrets that are worked out by its context?
func faceIsRight(s *term.Store, c api.Commit, secrets func(a aside, context int) (api.Secrets, api.Errno)) bool {
	a := aside{term.New()}
	context, e := sched.Context(a.terms, c.Group, c.Epoch, a.tree(c.Next))
	if e != api.OK {
		return false
	}
	now, e := secrets(a, context)
	if e != api.OK {
		return false
	}
	face, e := a.terms.Make(public(now.Outer))
	return e == api.OK && a.means(face, s, c.Face)
}
