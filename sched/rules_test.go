package sched_test

import (
	"fmt"
	"slices"
	"testing"

	"phratry/api"
	"phratry/sched"
	"phratry/term"
)

// roomy is a list with room to spare, filled with what nobody may touch.
func roomy[T any](l []T, filler T) []T {
	long := append(slices.Clone(l), slices.Repeat([]T{filler}, 9)...)
	return long[:len(l)]
}

// allOf tells a tree with all the room that its lists have.
func allOf(t api.Tree) string {
	text := ""
	for _, n := range t.Nodes[:cap(t.Nodes)] {
		text += fmt.Sprint(n.Pub, n.Member, n.Epoch, len(n.Unmerged), n.Unmerged[:cap(n.Unmerged)], ";")
	}
	return text
}

func TestR4TreeStays(t *testing.T) {
	x := dice(4)
	for range 500 {
		s := kinds(t)
		tree := api.Tree{Nodes: roomy(x.tree(s).Nodes, api.Node{Pub: -9, Unmerged: []int{-9}})}
		for i := range tree.Nodes {
			tree.Nodes[i].Unmerged = roomy(tree.Nodes[i].Unmerged, -9)
		}
		before := allOf(tree)
		if _, e := sched.Context(s, 1, 2, tree); e != api.OK || allOf(tree) != before {
			t.Fatal(e, before, allOf(tree))
		}
	}
}

// TestR1AnyNumbers: no call panics, whatever it is given, and with an error there is nothing else.
func TestR1AnyNumbers(t *testing.T) {
	x := dice(1)
	any := func() int {
		if x.roll(3) == 0 {
			return wild[x.roll(len(wild))]
		}
		return x.roll(12) - 2
	}
	for range 20000 {
		s := kinds(t)
		tree := x.tree(s)
		if x.roll(2) == 0 {
			tree.Nodes[x.roll(len(tree.Nodes))] = api.Node{Pub: any(), Member: any(), Epoch: any(), Unmerged: []int{any()}}
		}
		if x.roll(9) == 0 {
			tree.Nodes = tree.Nodes[:x.roll(len(tree.Nodes)+1)]
		}
		if n, e := sched.Context(s, any(), any(), tree); (e == api.OK) != (n != 0) {
			t.Fatal(tree, n, e)
		}
		if y, e := sched.From(s, any(), any()); e != api.OK && y != (api.Secrets{}) {
			t.Fatal(y, e)
		}
		if y, e := sched.Next(s, any(), any(), any()); e != api.OK && y != (api.Secrets{}) {
			t.Fatal(y, e)
		}
	}
}

// fill leaves a store so much room.
func fill(t *testing.T, s *term.Store, room int) {
	t.Helper()
	for s.Len() < api.MaxTerms-room {
		put(t, s, random(int64(1<<40+s.Len())))
	}
}

// brink tries a call on a store that is filled up: with room for all that it makes it goes; with less it is ErrLimit, and changes nothing.
func brink(t *testing.T, setup func(s *term.Store), need int, call func(s *term.Store) api.Errno) {
	t.Helper()
	small := term.New()
	setup(small)
	many := small.Len()
	if e := call(small); e != api.OK || small.Len() != many+need {
		t.Fatal("in a small store", e, small.Len()-many)
	}
	s := term.New()
	setup(s)
	last := need
	for _, room := range []int{need - 1, need - 2, need - 3, need / 2, 4, 3, 2, 1, 0} {
		if room < 0 || room >= last {
			continue
		}
		last = room
		fill(t, s, room)
		if e := call(s); e != api.ErrLimit || s.Len() != api.MaxTerms-room {
			t.Fatal("room", room, "of", need, e, api.MaxTerms-s.Len())
		}
	}
	s = term.New()
	setup(s)
	fill(t, s, need)
	if e := call(s); e != api.OK || s.Len() != api.MaxTerms {
		t.Fatal("just enough", e, s.Len())
	}
	if e := call(s); e != api.OK {
		t.Fatal("again, without room", e)
	}
}

func three(t *testing.T, s *term.Store) {
	for n := range 3 {
		put(t, s, random(int64(n)))
	}
}

// callNext is Next(1, 2, 3): the error, with nothing beside it.
func callNext(t *testing.T, s *term.Store) api.Errno {
	t.Helper()
	x, e := sched.Next(s, 1, 2, 3)
	if (e == api.OK) != (x != api.Secrets{}) {
		t.Error(x, e)
	}
	return e
}

func TestLimitNext(t *testing.T) {
	t.Parallel()
	brink(t, func(s *term.Store) { three(t, s) }, 7, func(s *term.Store) api.Errno { return callNext(t, s) })
}

// TestLimitNextThere: the Joiner, Epoch and a secret of it are there already.
func TestLimitNextThere(t *testing.T) {
	t.Parallel()
	setup := func(s *term.Store) {
		three(t, s)
		joiner := put(t, s, kdf(3, put(t, s, pair(1, 2)), 0))
		put(t, s, kdf(7, put(t, s, kdf(4, joiner, 3)), 0))
	}
	brink(t, setup, 3, func(s *term.Store) api.Errno { return callNext(t, s) })
}

func TestLimitFrom(t *testing.T) {
	t.Parallel()
	brink(t, func(s *term.Store) { three(t, s) }, 5, func(s *term.Store) api.Errno {
		x, e := sched.From(s, 1, 2)
		if (e == api.OK) != (x != api.Secrets{}) {
			t.Error(x, e)
		}
		// What may not be is told ahead of the room.
		if _, e := sched.From(s, 0, 2); e != api.ErrArg {
			t.Error(e)
		}
		return e
	})
}

// greatest is the tree with the longest context: 72 things in its list.
func greatest(s *term.Store) api.Tree {
	return read(s, "m21 P{0,1} m22 P{0,1,2,3} m23 P{2,3} m24 P{0,1,2,3,4,5,6,7} m25 P{4,5} m26 P{4,5,6,7} m27 P{6,7} m28")
}

// TestLimitContext: of the greatest tree; its places, and the leaves that are among these, are 15 data, beside 18 others.
func TestLimitContext(t *testing.T) {
	t.Parallel()
	brink(t, func(s *term.Store) { greatest(s) }, 15+18+71+1, func(s *term.Store) api.Errno {
		x := greatest(s)
		n, e := sched.Context(s, 1000, 2000, x)
		if (e == api.OK) != (n != 0) {
			t.Error(n, e)
		}
		return e
	})
}

// TestLimitContextThere: that of the epoch ahead is there, and so is all but the number of the epoch, two pairs and the hash.
func TestLimitContextThere(t *testing.T) {
	t.Parallel()
	setup := func(s *term.Store) { sched.Context(s, 1000, 2000, read(s, "m5 P{1} m6")) }
	brink(t, setup, 4, func(s *term.Store) api.Errno {
		_, e := sched.Context(s, 1000, 2001, read(s, "m5 P{1} m6"))
		if _, e := sched.Context(s, 1000, 2001, api.Tree{Nodes: make([]api.Node, 2)}); e != api.ErrArg {
			t.Error(e)
		}
		return e
	})
}
