package group

import (
	"phratry/alike"
	"phratry/api"
	"phratry/tree"
)

// makersLeaf is the leaf of who makes a commit, ahead of its path: that gives the leaf its key. Till then the seed stands
// there, which is a term already, for a plan that tree refuses makes none.
func makersLeaf(p Plan) api.Add {
	return api.Add{Member: p.Member, Epoch: p.KeyEpoch, Pub: p.Seed}
}

// comeAndGo is a tree without some members, then with others, and the leaves of these.
func comeAndGo(t api.Tree, adds []api.Add, removes []int) (next api.Tree, fresh []int, e api.Errno) {
	for _, m := range removes {
		if t, e = tree.Remove(t, m); e != api.OK {
			return api.Tree{}, nil, e
		}
	}
	for _, a := range adds {
		var leaf int
		if t, leaf, e = tree.Add(t, a); e != api.OK {
			return api.Tree{}, nil, e
		}
		fresh = append(fresh, leaf)
	}
	return t, fresh, api.OK
}

// comeBack is a tree with a new leaf for a member, without its old one, if it had one.
func comeBack(t api.Tree, a api.Add) (next api.Tree, leaf int, e api.Errno) {
	if tree.Find(t, a.Member) < 0 {
		return tree.Add(t, a)
	}
	if len(tree.Members(t)) == 1 {
		return tree.Add(api.Tree{}, a)
	}
	if t, e = tree.Remove(t, a.Member); e != api.OK {
		return api.Tree{}, 0, e
	}
	return tree.Add(t, a)
}

// comesOf: is Next what a commit makes of a tree, but for the keys that it brings?
func comesOf(before api.Tree, c api.Commit) bool {
	at, leaf, e := aheadOfPath(before, c)
	if e != api.OK || leaf < 0 || len(at.Nodes) != len(c.Next.Nodes) {
		return false
	}
	nodes, e := tree.Path(at, leaf)
	if e != api.OK {
		return false
	}
	var pubs []int
	for _, x := range nodes {
		pubs = append(pubs, c.Next.Nodes[x].Pub)
	}
	next, e := tree.SetPath(at, leaf, c.KeyEpoch, c.Next.Nodes[2*leaf].Pub, pubs)
	return e == api.OK && alike.Tree(next, c.Next)
}

// aheadOfPath is a tree with all who come in and go out by a commit, and the maker's leaf; -1: it has none.
func aheadOfPath(before api.Tree, c api.Commit) (at api.Tree, leaf int, e api.Errno) {
	if c.External {
		// Any key does: the path gives the leaf that of Next.
		return comeBack(before, api.Add{Member: c.Member, Epoch: c.KeyEpoch, Pub: c.Face})
	}
	at, _, e = comeAndGo(before, c.Adds, c.Removes)
	return at, tree.Find(at, c.Member), e
}
