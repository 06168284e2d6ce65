package roster

import (
	"iter"
	"slices"

	"phratry/api"
	"phratry/post"
	"phratry/tree"
)

// members goes through the members of either tree, rising, each once.
func members(before, behind api.Tree) iter.Seq[int] {
	return func(yield func(int) bool) {
		l := slices.Concat(tree.Members(before), tree.Members(behind))
		slices.Sort(l)
		for _, member := range slices.Compact(l) {
			if !yield(member) {
				return
			}
		}
	}
}

// ofDevices: may both trees be, and are all their members devices?
func ofDevices(before, behind api.Tree) bool {
	if tree.Check(before) != api.OK || tree.Check(behind) != api.OK {
		return false
	}
	for member := range members(before, behind) {
		if _, e := User(member); e != api.OK {
			return false
		}
	}
	return true
}

// settled is boxes behind a commit that concerns a member. None of post's calls refuses here: the boxes may be, the
// member is a device, and its box is asked for first.
func settled(l []api.Box, member int, m api.Mail, stays bool) []api.Box {
	there, out := post.Has(l, member)
	if !there {
		l, _ = post.Open(l, member)
	}
	if !out {
		l, _ = post.Put(l, member, m)
	}
	if !stays {
		l, _ = post.Close(l, member)
	}
	return l
}
