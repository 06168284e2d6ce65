package path_test

import (
	"fmt"
	"slices"
	"testing"

	"phratry/api"
	"phratry/path"
	"phratry/term"
)

// roomy is a list with room to spare, filled with what nobody may touch.
func roomy[T any](l []T, filler T) []T {
	long := append(slices.Clone(l), slices.Repeat([]T{filler}, 9)...)
	return long[:len(l)]
}

func roomyTree(t api.Tree) api.Tree {
	l := roomy(t.Nodes, api.Node{Pub: -9, Unmerged: []int{-9}})
	for i := range l {
		l[i].Unmerged = roomy(l[i].Unmerged, -9)
	}
	return api.Tree{Nodes: l}
}

// allOf tells lists with all the room that they have.
func allOf(t api.Tree, keys []api.Key, seals []api.Seal, without []int) string {
	s := fmt.Sprint(keys[:cap(keys)], seals[:cap(seals)], without[:cap(without)])
	for _, n := range t.Nodes[:cap(t.Nodes)] {
		s += fmt.Sprint(n.Pub, n.Member, n.Epoch, len(n.Unmerged), n.Unmerged[:cap(n.Unmerged)], ";")
	}
	return s
}

// over writes over a list, its spare room too.
func over[T any](l []T, x T) {
	for i := range l[:cap(l)] {
		l[:cap(l)][i] = x
	}
}

func overTree(t api.Tree) {
	for _, n := range t.Nodes {
		over(n.Unmerged, -7)
	}
	over(t.Nodes, api.Node{Pub: -7})
}

func TestR4Memory(t *testing.T) {
	x := dice(4)
	s := term.New()
	for round := range 2000 {
		from := roomyTree(x.tree(s))
		seed := put(t, s, random(int64(1000+round)))
		leaf := x.one(leavesOf(from))
		without := roomy([]int{9, 8}, -9)
		before := allOf(from, nil, nil, without)
		next, keys, seals, _, _ := path.Make(s, from, leaf, 1, seed, without)
		again, keys2, seals2, _, _ := path.Make(s, from, leaf, 1, seed, without)
		overTree(again)
		over(keys2, api.Key{Node: -7})
		over(seals2, api.Seal{At: -7})
		row, _ := path.Secrets(s, seed, x.roll(17))
		over(row, -7)
		if allOf(from, nil, nil, without) != before {
			t.Fatal("Make keeps or changes what it was given")
		}
		other := x.one(leavesOf(from))
		had := roomy(keysOf(s, from, other), api.Key{Node: -9})
		next, seals = roomyTree(next), roomy(seals, api.Seal{At: -9})
		before = allOf(next, had, seals, nil)
		l, _, _ := path.Open(s, next, leaf, other, had, seals)
		m, _, _ := path.Open(s, next, leaf, other, had, seals)
		want := slices.Clone(m)
		over(l, api.Key{Node: -7})
		a, _, e := path.Above(s, next, 2*leaf, seed)
		if e != api.OK || !slices.Equal(a, keys) {
			t.Fatal(a, keys, e)
		}
		over(a, api.Key{Node: -7})
		path.Joint(next, leaf, other)
		if allOf(next, had, seals, nil) != before || !slices.Equal(m, want) {
			t.Fatal("Open keeps or changes what it was given")
		}
	}
}

// TestR1AnyNumbers: no call panics, whatever it is given, and with an error there is nothing else.
func TestR1AnyNumbers(t *testing.T) {
	x := dice(1)
	s := term.New()
	any := func() int {
		if x.roll(3) == 0 {
			return x.one(wild)
		}
		return x.roll(20) - 2
	}
	for range 20000 {
		from := x.tree(s)
		if x.roll(2) == 0 {
			from.Nodes[x.roll(len(from.Nodes))] = api.Node{Pub: any(), Member: any(), Epoch: any(), Unmerged: []int{any()}}
		}
		if x.roll(9) == 0 {
			from.Nodes = from.Nodes[:x.roll(len(from.Nodes)+1)]
		}
		next, keys, seals, secret, e := path.Make(s, from, any(), any(), any(), []int{any(), any()})
		if e != api.OK && (next.Nodes != nil || keys != nil || seals != nil || secret != 0) {
			t.Fatal(next, keys, seals, secret, e)
		}
		l, secret, e := path.Open(s, from, any(), any(), []api.Key{{Node: any(), Secret: any()}}, []api.Seal{{At: any(), To: any(), Term: any()}})
		if e != api.OK && (l != nil || secret != 0) {
			t.Fatal(l, secret, e)
		}
		l, secret, e = path.Above(s, from, any(), any())
		if e != api.OK && (l != nil || secret != 0) {
			t.Fatal(l, secret, e)
		}
		if joint := path.Joint(from, any(), any()); joint < -1 || joint >= len(from.Nodes) {
			t.Fatal(joint)
		}
	}
}

// fill leaves a store so much room.
func fill(t *testing.T, s *term.Store, room int) {
	t.Helper()
	for s.Len() < api.MaxTerms-room {
		if _, e := s.Make(random(int64(1<<40 + s.Len()))); e != api.OK {
			t.Fatal(e)
		}
	}
}

// brink tries a call on a store that is filled up: with room for all that it makes it goes; with less it is ErrLimit, and changes nothing.
func brink(t *testing.T, what string, setup func(s *term.Store), call func(s *term.Store) api.Errno) {
	t.Helper()
	small := term.New()
	setup(small)
	many := small.Len()
	if e := call(small); e != api.OK {
		t.Fatal(what, e)
	}
	need := small.Len() - many
	s := term.New()
	setup(s)
	for room := need - 1; room >= 0; room-- {
		fill(t, s, room)
		if e := call(s); e != api.ErrLimit || s.Len() != api.MaxTerms-room {
			t.Fatal(what, "room", room, "of", need, e, api.MaxTerms-s.Len())
		}
	}
	s = term.New()
	setup(s)
	fill(t, s, need)
	if e := call(s); e != api.OK || s.Len() != api.MaxTerms {
		t.Fatal(what, "just enough", e, s.Len())
	}
	if e := call(s); e != api.OK {
		t.Fatal(what, "again, without room", e)
	}
}

func TestLimitSecrets(t *testing.T) {
	t.Parallel()
	seed := func(s *term.Store) { put(t, s, random(7)) }
	brink(t, "Secrets", seed, func(s *term.Store) api.Errno {
		l, e := path.Secrets(s, 1, 16)
		if (e == api.OK) != (len(l) == 17) {
			t.Error(l, e)
		}
		return e
	})
	brink(t, "Node", seed, func(s *term.Store) api.Errno {
		key, pub, e := path.Node(s, 1)
		if (e == api.OK) != (key != 0) || (key != 0) != (pub != 0) {
			t.Error(key, pub, e)
		}
		return e
	})
}

// eight is a tree of as many leaves, and a seed. Two of its nodes have one Pub: what is sealed for both is one term.
func eight(t *testing.T, s *term.Store) (api.Tree, int) {
	x := read(s, "m1 P m2 P m3 P m4 P m5 P{4,5} m6 P{4,5,6} m7 P{7} m8")
	x.Nodes[10].Pub = x.Nodes[8].Pub
	return x, put(t, s, random(7))
}

// brinkOfMake tries Make of the second leaf where a part of what it makes is there already.
func brinkOfMake(t *testing.T, what string, there func(s *term.Store, x api.Tree, seed int)) {
	t.Helper()
	setup := func(s *term.Store) {
		x, seed := eight(t, s)
		there(s, x, seed)
	}
	brink(t, what, setup, func(s *term.Store) api.Errno {
		x, seed := eight(t, s)
		next, keys, seals, secret, e := path.Make(s, x, 1, 0, seed, nil)
		ok := e == api.OK
		if ok != (next.Nodes != nil) || ok != (keys != nil) || ok != (len(seals) == 6) || ok != (secret != 0) {
			t.Error(next, keys, seals, secret, e)
		}
		return e
	})
}

func TestLimitMake(t *testing.T) {
	t.Parallel()
	brinkOfMake(t, "nothing there", func(s *term.Store, x api.Tree, seed int) {})
}

func TestLimitMakeBehindSecrets(t *testing.T) {
	t.Parallel()
	brinkOfMake(t, "some secrets there", func(s *term.Store, x api.Tree, seed int) {
		path.Secrets(s, seed, 2)
		path.Node(s, seed)
	})
}

func TestLimitMakeBehindMake(t *testing.T) {
	t.Parallel()
	brinkOfMake(t, "all but some seals there", func(s *term.Store, x api.Tree, seed int) {
		path.Make(s, x, 1, 0, seed, []int{0, 2, 3, 4, 5, 6, 7})
	})
}

// closing is a tree whose parent has the key of the seed, which is sealed for the leaf 1. The secret behind it is not made yet.
func closing(t *testing.T, s *term.Store) (api.Tree, []api.Seal, int) {
	seed := put(t, s, random(7))
	next := read(s, "m5 P m6")
	_, next.Nodes[1].Pub, _ = path.Node(s, seed)
	return next, []api.Seal{{At: 1, To: 2, Term: put(t, s, sealed(next.Nodes[2].Pub, seed))}}, seed
}

// TestLimitAbove: the commit's secret alone is made; what is closed is ErrKey, room or none.
func TestLimitAbove(t *testing.T) {
	t.Parallel()
	brink(t, "Above", func(s *term.Store) { closing(t, s) }, func(s *term.Store) api.Errno {
		next, _, seed := closing(t, s)
		l, commit, e := path.Above(s, next, 1, seed)
		if (e == api.OK) != (len(l) == 1) || (e == api.OK) != (commit != 0) {
			t.Error(l, commit, e)
		}
		if _, _, e := path.Above(s, next, 0, seed); e != api.ErrKey {
			t.Error(e)
		}
		return e
	})
}

func TestLimitOpen(t *testing.T) {
	t.Parallel()
	brink(t, "Open", func(s *term.Store) { closing(t, s) }, func(s *term.Store) api.Errno {
		next, seals, _ := closing(t, s)
		l, secret, e := path.Open(s, next, 0, 1, []api.Key{{Node: 2, Secret: old(s, 2)}}, seals)
		if (e == api.OK) != (len(l) == 2) || (e == api.OK) != (secret != 0) {
			t.Error(l, secret, e)
		}
		if _, _, e := path.Open(s, next, 0, 1, []api.Key{{Node: 2, Secret: old(s, 0)}}, seals); e != api.ErrKey {
			t.Error(e)
		}
		return e
	})
}

// TestR5TwoStores: the same calls on two stores answer the same terms, whatever else is in one of them.
func TestR5TwoStores(t *testing.T) {
	tell := func(s *term.Store) string {
		next, keys, seals, secret, _ := path.Make(s, read(s, "m5 P m6 P{3} m7 . m8"), 0, 3, put(t, s, random(7)), []int{3})
		l, again, e := path.Open(s, next, 0, 2, []api.Key{{Node: 4, Secret: old(s, 4)}}, seals)
		return fmt.Sprint(told(s, next), toldKeys(s, keys), toldSeals(s, seals), s.Dag(secret), toldKeys(s, l), s.Dag(again), e)
	}
	a, b := term.New(), term.New()
	for n := range 50 {
		put(t, b, random(int64(150-n)))
	}
	if x, y := tell(a), tell(b); x != y {
		t.Error(x, y)
	}
}
