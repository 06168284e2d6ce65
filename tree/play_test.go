package tree_test

import (
	"fmt"
	"math"
	"slices"
	"testing"

	"phratry/api"
	"phratry/tree"
)

// dice tells the same row of numbers at every run.
type dice uint64

func (x *dice) next() uint64 {
	*x = *x*6364136223846793005 + 1442695040888963407
	return uint64(*x) >> 33
}

func (x *dice) roll(n int) int { return int(x.next() % uint64(n)) }

func (x *dice) one(l []int) int { return l[x.roll(len(l))] }

// tree is any tree that may be, those too that no call makes.
func (x *dice) tree() api.Tree {
	n := 1 << x.roll(4)
	t := api.Tree{Nodes: make([]api.Node, 2*n-1)}
	members := []int{0, 1, 2, 3, 4, 5, 6, 7, math.MaxInt}
	thin := 1 + x.roll(4)
	for leaf := range n {
		if x.roll(thin) == 0 || leaf == n-1 {
			at := x.roll(len(members))
			t.Nodes[2*leaf] = api.Node{Pub: 1 + x.roll(9), Member: members[at], Epoch: x.roll(3)}
			members = slices.Delete(members, at, at+1)
		}
	}
	for node := 1; node < len(t.Nodes); node += 2 {
		if x.roll(2) == 0 {
			continue
		}
		t.Nodes[node].Pub = 10 + x.roll(9)
		for leaf := range n {
			if t.Nodes[2*leaf].Pub > 0 && touched(len(t.Nodes), node, 2*leaf) && x.roll(2) == 0 {
				t.Nodes[node].Unmerged = append(t.Nodes[node].Unmerged, leaf)
			}
		}
	}
	return t
}

// knot is a node with what is below it, to hold the package against: a tree by its root.
type knot struct {
	api.Node
	place       int
	left, right *knot
}

func grown(t api.Tree, from, to int) *knot {
	if from == to {
		return nil
	}
	at := (from + to) / 2
	return &knot{Node: t.Nodes[at], place: at, left: grown(t, from, at), right: grown(t, at+1, to)}
}

func root(t api.Tree) *knot { return grown(t, 0, len(t.Nodes)) }

// flat is the tree that a root has below it, as the chapter numbers its nodes.
func (k *knot) flat() api.Tree {
	if k == nil {
		return api.Tree{}
	}
	own := api.Node{Pub: k.Pub, Member: k.Member, Epoch: k.Epoch, Unmerged: slices.Clone(k.Unmerged)}
	return api.Tree{Nodes: slices.Concat(k.left.flat().Nodes, []api.Node{own}, k.right.flat().Nodes)}
}

func (k *knot) leaf() bool { return k.left == nil }

func (k *knot) leaves() []*knot {
	if k == nil {
		return nil
	}
	if k.leaf() {
		return []*knot{k}
	}
	return append(k.left.leaves(), k.right.leaves()...)
}

// way is the nodes from a leaf's parent up to the root, and beside each the child that is not on the way.
func (k *knot) way(leaf *knot) (way, beside []*knot) {
	if k.leaf() {
		return nil, nil
	}
	on, off := k.left, k.right
	if leaf.place > k.place {
		on, off = off, on
	}
	way, beside = on.way(leaf)
	return append(way, k), append(beside, off)
}

func (k *knot) resolved() []int {
	switch {
	case k.Pub > 0:
		l := []int{k.place}
		for _, leaf := range k.Unmerged {
			l = append(l, leaf*2)
		}
		return l
	case k.leaf():
		return nil
	}
	return slices.Concat(k.left.resolved(), k.right.resolved())
}

func (k *knot) members() []int {
	var l []int
	for _, leaf := range k.leaves() {
		if leaf.Pub > 0 {
			l = append(l, leaf.Member)
		}
	}
	return l
}

// path is the part of a leaf's way that gets new keys, and the resolutions beside it.
func (k *knot) path(leaf *knot) (nodes []*knot, others [][]int) {
	way, beside := k.way(leaf)
	for i, node := range way {
		if l := beside[i].resolved(); len(l) > 0 {
			nodes = append(nodes, node)
			others = append(others, l)
		}
	}
	return nodes, others
}

func plainAdd(t api.Tree, a api.Add) (api.Tree, int, api.Errno) {
	if a.Member < 0 || a.Epoch < 0 || a.Pub < 1 {
		return api.Tree{}, 0, api.ErrArg
	}
	k := root(t)
	if slices.Contains(k.members(), a.Member) {
		return api.Tree{}, 0, api.ErrTwice
	}
	if len(k.members()) == 8 {
		return api.Tree{}, 0, api.ErrLimit
	}
	if k == nil {
		k = &knot{}
	} else if len(k.members()) == len(k.leaves()) {
		k = root(api.Tree{Nodes: append(k.flat().Nodes, make([]api.Node, len(t.Nodes)+1)...)})
	}
	for number, leaf := range k.leaves() {
		if leaf.Pub > 0 {
			continue
		}
		leaf.Node = api.Node{Pub: a.Pub, Member: a.Member, Epoch: a.Epoch}
		way, _ := k.way(leaf)
		for _, node := range way {
			if node.Pub > 0 {
				node.Unmerged = append(slices.Clone(node.Unmerged), number)
				slices.Sort(node.Unmerged)
			}
		}
		return k.flat(), number, api.OK
	}
	panic("no leaf is blank")
}

func plainRemove(t api.Tree, member int) (api.Tree, api.Errno) {
	k := root(t)
	if !slices.Contains(k.members(), member) {
		return api.Tree{}, api.ErrGone
	}
	if len(k.members()) == 1 {
		return api.Tree{}, api.ErrRule
	}
	for _, leaf := range k.leaves() {
		if leaf.Pub > 0 && leaf.Member == member {
			leaf.Node = api.Node{}
			way, _ := k.way(leaf)
			for _, node := range way {
				node.Node = api.Node{}
			}
		}
	}
	for !k.leaf() && len(k.right.members()) == 0 {
		k = k.left
	}
	return k.flat(), api.OK
}

func plainSetPath(t api.Tree, number, epoch, pub int, pubs []int) (api.Tree, api.Errno) {
	k := root(t)
	leaf := k.leaves()[number]
	nodes, _ := k.path(leaf)
	if len(pubs) != len(nodes) {
		return api.Tree{}, api.ErrArg
	}
	leaf.Pub, leaf.Epoch = pub, epoch
	way, _ := k.way(leaf)
	for _, node := range way {
		node.Node = api.Node{}
		if at := slices.Index(nodes, node); at >= 0 {
			node.Pub = pubs[at]
		}
	}
	return k.flat(), api.OK
}

// agree asks all that can be asked of a tree, and holds it against the plain one.
func agree(t *testing.T, x *dice, at api.Tree) {
	t.Helper()
	k := root(at)
	if e := tree.Check(at); e != api.OK {
		t.Fatal(told(at), e)
	}
	members := tree.Members(at)
	if !slices.Equal(members, k.members()) || tree.Size(at) != len(k.leaves()) || len(members) > api.MaxLeaves {
		t.Fatal(told(at), members, tree.Size(at))
	}
	for node := range at.Nodes {
		got, e := tree.Resolution(at, node)
		if e != api.OK || !slices.Equal(got, inside(k, node).resolved()) {
			t.Fatal(told(at), node, got, e)
		}
	}
	for number, leaf := range k.leaves() {
		nodes, e := tree.Path(at, number)
		fresh := []int{x.roll(8), x.roll(8), x.roll(16)}
		targets, f := tree.Targets(at, number, fresh)
		if leaf.Pub == 0 {
			if e != api.ErrGone || f != api.ErrGone {
				t.Fatal(told(at), number, nodes, e, f)
			}
			continue
		}
		if tree.Find(at, leaf.Member) != number {
			t.Fatal(told(at), number)
		}
		way, others := k.path(leaf)
		var want []int
		for i := range way {
			want = append(want, way[i].place)
			for _, n := range fresh {
				others[i] = slices.DeleteFunc(others[i], func(node int) bool { return node == 2*n })
			}
		}
		if e != api.OK || f != api.OK || !slices.Equal(nodes, want) || fmt.Sprint(targets) != fmt.Sprint(others) {
			t.Fatal(told(at), number, fresh, nodes, want, targets, others)
		}
	}
}

func inside(k *knot, node int) *knot {
	for k.place != node {
		if node < k.place {
			k = k.left
		} else {
			k = k.right
		}
	}
	return k
}

// turn changes a tree by any of the calls, as the plain one does, and holds what it answers against that.
func turn(t *testing.T, x *dice, at api.Tree) api.Tree {
	t.Helper()
	someone := []int{0, 1, 2, 3, 4, 5, 6, 7, 8, math.MaxInt, -1}
	var got, want api.Tree
	var e, f api.Errno
	n, m := 0, 0
	what := x.roll(7)
	switch {
	case what < 3:
		a := api.Add{Member: x.one(someone), Epoch: x.roll(40) - 1, Pub: x.roll(40)}
		got, n, e = tree.Add(at, a)
		want, m, f = plainAdd(at, a)
	case what < 5:
		member := x.one(someone)
		got, e = tree.Remove(at, member)
		want, f = plainRemove(at, member)
	case len(at.Nodes) > 0:
		leaf := tree.Find(at, x.one(tree.Members(at)))
		nodes, _ := tree.Path(at, leaf)
		pubs := make([]int, max(0, len(nodes)+(x.roll(20)-10)/9))
		for i := range pubs {
			pubs[i] = 50 + x.roll(50)
		}
		pub := 1 + x.roll(50)
		got, e = tree.SetPath(at, leaf, 7, pub, pubs)
		want, f = plainSetPath(at, leaf, 7, pub, pubs)
	}
	if e != f || n != m || !same(got, want) {
		t.Fatalf("%s: %s, %d, %d, not %s, %d, %d", told(at), told(got), n, e, told(want), m, f)
	}
	if e != api.OK || len(got.Nodes) == 0 {
		return at
	}
	return got
}

func TestP87Plays(t *testing.T) {
	x := dice(8)
	for range 200 {
		var at api.Tree
		for range 60 {
			at = turn(t, &x, at)
			agree(t, &x, at)
		}
	}
}

func TestP87AnyTree(t *testing.T) {
	x := dice(87)
	for range 20000 {
		at := x.tree()
		agree(t, &x, at)
		if e := tree.Check(turn(t, &x, at)); e != api.OK {
			t.Fatal(told(at), e)
		}
	}
}

// TestP87Named: who knows the secret of a node of a resolution is below it and no unmerged leaf of it.
func TestP87Named(t *testing.T) {
	x := dice(870)
	for range 5000 {
		at := x.tree()
		for node := range at.Nodes {
			l, _ := tree.Resolution(at, node)
			named := map[int]int{}
			for _, y := range l {
				for _, leaf := range inside(root(at), y).leaves() {
					if leaf.Pub > 0 && !slices.Contains(at.Nodes[y].Unmerged, leaf.place/2) {
						named[leaf.Member]++
					}
				}
			}
			members := inside(root(at), node).members()
			for _, m := range members {
				if named[m] != 1 {
					t.Fatal(told(at), node, l, m)
				}
			}
			if len(named) != len(members) {
				t.Fatal(told(at), node, l, named)
			}
		}
	}
}

func TestP87AddThenRemove(t *testing.T) {
	x := dice(872)
	for range 5000 {
		at := x.tree()
		more, _, e := tree.Add(at, api.Add{Member: 20, Pub: 1})
		if e == api.ErrLimit {
			continue
		}
		less, f := tree.Remove(more, 20)
		if e != api.OK || f != api.OK || !slices.Equal(tree.Members(less), tree.Members(at)) {
			t.Fatal(told(at), told(more), told(less), e, f)
		}
	}
}

func TestP87BehindSetPath(t *testing.T) {
	x := dice(873)
	for range 5000 {
		at := x.tree()
		for _, m := range tree.Members(at) {
			leaf := tree.Find(at, m)
			nodes, _ := tree.Path(at, leaf)
			next, e := tree.SetPath(at, leaf, 1, 1, []int{1, 1, 1}[:len(nodes)])
			if e != api.OK || !slices.Equal(tree.Members(next), tree.Members(at)) {
				t.Fatal(told(at), leaf, e)
			}
			again, _ := tree.Path(next, leaf)
			if !slices.Equal(again, nodes) {
				t.Fatal(told(at), leaf, nodes, again)
			}
			for _, node := range nodes {
				if l, e := tree.Resolution(next, node); e != api.OK || !slices.Equal(l, []int{node}) {
					t.Fatal(told(next), node, l, e)
				}
			}
		}
	}
}

// roomy is a tree of which each list has room to spare, filled with what nobody may touch.
func roomy(at api.Tree) api.Tree {
	nodes := append(slices.Clone(at.Nodes), slices.Repeat([]api.Node{{Pub: -9, Unmerged: []int{-9}}}, 20)...)
	for i := range at.Nodes {
		l := append(slices.Clone(nodes[i].Unmerged), -9, -9, -9, -9)
		nodes[i].Unmerged = l[:len(l)-4]
	}
	return api.Tree{Nodes: nodes[:len(at.Nodes)]}
}

// whole tells a tree with all the room that it has.
func whole(at api.Tree) string {
	s := ""
	for _, n := range at.Nodes[:cap(at.Nodes)] {
		s += fmt.Sprint(n.Pub, n.Member, n.Epoch, len(n.Unmerged), n.Unmerged[:cap(n.Unmerged)], ";")
	}
	return s
}

// spoil writes over all that an answer has, its spare room too, each list with a number of its own.
func spoil(l []int, n int) {
	for i := range l[:cap(l)] {
		l[:cap(l)][i] = n
	}
}

func spoiled(t *testing.T, at api.Tree) {
	t.Helper()
	for i := range at.Nodes {
		spoil(at.Nodes[i].Unmerged, i)
	}
	for i, n := range at.Nodes {
		for _, k := range n.Unmerged[:cap(n.Unmerged)] {
			if k != i {
				t.Fatal("two lists share", i, k)
			}
		}
	}
	for i := range at.Nodes[:cap(at.Nodes)] {
		at.Nodes[:cap(at.Nodes)][i] = api.Node{Pub: -7}
	}
}

func TestR4Memory(t *testing.T) {
	x := dice(4)
	for range 3000 {
		at := roomy(x.tree())
		before := whole(at)
		member := x.one(tree.Members(at))
		leaf := tree.Find(at, member)
		more, _, _ := tree.Add(at, api.Add{Member: 20, Pub: 1})
		less, _ := tree.Remove(at, member)
		nodes, _ := tree.Path(at, leaf)
		pubs := slices.Repeat([]int{3}, len(nodes))
		set, _ := tree.SetPath(at, leaf, 1, 1, pubs)
		fresh := []int{7, 0, 3}
		targets, _ := tree.Targets(at, leaf, fresh)
		resolved, _ := tree.Resolution(at, x.roll(len(at.Nodes)))
		for _, a := range []api.Tree{more, less, set} {
			spoiled(t, a)
		}
		for i, l := range targets {
			spoil(l, i)
		}
		for i, l := range targets {
			for _, n := range l[:cap(l)] {
				if n != i {
					t.Fatal("two lists share", i, n)
				}
			}
		}
		for _, l := range [][]int{resolved, nodes, tree.Members(at)} {
			spoil(l, -5)
		}
		if whole(at) != before || !slices.Equal(fresh, []int{7, 0, 3}) || slices.ContainsFunc(pubs, func(p int) bool { return p != 3 }) {
			t.Fatal("an argument was changed", told(at))
		}
	}
}
