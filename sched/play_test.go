package sched_test

import (
	"slices"
	"testing"

	"phratry/api"
	"phratry/deduce"
	"phratry/index"
	"phratry/sched"
	"phratry/term"
)

// dice tells the same row of numbers at every run.
type dice uint64

func (x *dice) roll(n int) int {
	*x = *x*6364136223846793005 + 1442695040888963407
	return int(uint64(*x) >> 33 % uint64(n))
}

// tree is any tree that may be; its Pubs are terms of a store that has some.
func (x *dice) tree(s *term.Store) api.Tree {
	n := 1 << x.roll(4)
	t := api.Tree{Nodes: make([]api.Node, 2*n-1)}
	thin := 1 + x.roll(4)
	for leaf := range n {
		if x.roll(thin) == 0 || leaf == n-1 {
			t.Nodes[2*leaf] = api.Node{Pub: 1 + x.roll(s.Len()), Member: 20*x.roll(3) + leaf, Epoch: x.roll(3)}
		}
	}
	for node := 1; node < len(t.Nodes); node += 2 {
		if x.roll(3) == 0 {
			continue
		}
		t.Nodes[node].Pub = 1 + x.roll(s.Len())
		first, last := index.Span(node)
		for leaf := first; leaf <= last; leaf++ {
			if t.Nodes[2*leaf].Pub > 0 && x.roll(3) == 0 {
				t.Nodes[node].Unmerged = append(t.Nodes[node].Unmerged, leaf)
			}
		}
	}
	return t
}

// plainContext is the context as the chapter's words go, by the store's own calls.
func plainContext(t *testing.T, s *term.Store, group, epoch int, x api.Tree) int {
	t.Helper()
	var l []int
	public := func(n int) { l = append(l, put(t, s, data(int64(n)))) }
	public(group)
	public(epoch)
	for place, n := range x.Nodes {
		if n.Pub == 0 {
			continue
		}
		public(place)
		l = append(l, n.Pub)
		if index.Level(place) == 0 {
			public(n.Member)
			public(n.Epoch)
		}
		for _, leaf := range n.Unmerged {
			public(leaf)
		}
	}
	list, e := s.List(l...)
	if e != api.OK {
		t.Fatal(e)
	}
	return put(t, s, hash(list))
}

// TestP101AnyTree holds Context against the plain one, in two stores that have the same before: nothing else is made.
func TestP101AnyTree(t *testing.T) {
	x := dice(101)
	for range 3000 {
		s, other := kinds(t), kinds(t)
		tree := x.tree(s)
		group, epoch := x.roll(9)-4, x.roll(9)
		n, e := sched.Context(s, group, epoch, tree)
		want := plainContext(t, other, group, epoch, tree)
		if e != api.OK || !slices.Equal(s.Dag(n), other.Dag(want)) || s.Len() != other.Len() {
			t.Fatal(tree, group, epoch, told(s, n), told(other, want), e)
		}
	}
}

// TestR5TwoStores: the same calls in a store that has its terms in another order make the same terms.
func TestR5TwoStores(t *testing.T) {
	tell := func(s *term.Store) (l [][]api.Term) {
		x := read(s, "m5 P m6 P{3} m7 . m8")
		context, e := sched.Context(s, 2, 3, x)
		y, f := sched.Next(s, put(t, s, random(7)), put(t, s, random(8)), context)
		if e != api.OK || f != api.OK {
			t.Fatal(e, f)
		}
		for _, n := range []int{context, y.Joiner, y.Epoch, y.Init, y.Export, y.Outer, y.App} {
			l = append(l, s.Dag(n))
		}
		return l
	}
	a, b := term.New(), term.New()
	for n := range 40 {
		put(t, b, random(int64(110-n)))
		put(t, b, data(int64(20-n)))
	}
	if !slices.EqualFunc(tell(a), tell(b), slices.Equal) {
		t.Error("two stores, two answers")
	}
}

// follows: does a term follow from known ones?
func follows(t *testing.T, s *term.Store, n int, known ...int) bool {
	t.Helper()
	ok, e := deduce.Follows(s, known, n)
	if e != api.OK {
		t.Fatal(n, known, e)
	}
	return ok
}

// checkApart: what the chapter promises of an epoch's secrets, beside what else is known.
func checkApart(t *testing.T, s *term.Store, x api.Secrets, known ...int) {
	t.Helper()
	four := []int{x.Init, x.Export, x.Outer, x.App}
	for i, own := range four {
		for j, other := range four {
			if got := follows(t, s, other, append(known, own)...); got != (i == j) {
				t.Error("from", i, "follows", j, got)
			}
		}
		if follows(t, s, x.Epoch, append(known, own)...) || follows(t, s, x.Joiner, append(known, own)...) {
			t.Error("from", i, "follows Epoch, or Joiner")
		}
		if !follows(t, s, own, append(known, x.Epoch)...) {
			t.Error("from Epoch does not follow", i)
		}
	}
	if follows(t, s, x.Epoch, append(known, four...)...) {
		t.Error("from all four follows Epoch")
	}
	if follows(t, s, x.Joiner, append(known, append(four, x.Epoch)...)...) {
		t.Error("from Epoch follows Joiner")
	}
}

func TestP103From(t *testing.T) {
	for kind, context := range []api.Term{random(2), data(2), hash(1)} {
		s := term.New()
		joiner := put(t, s, random(1))
		x, e := sched.From(s, joiner, put(t, s, context))
		if e != api.OK {
			t.Fatal(e)
		}
		checkApart(t, s, x)
		checkApart(t, s, x, 2)
		if !follows(t, s, x.App, joiner, 2) {
			t.Error(kind, "from Joiner and the context App does not follow")
		}
		if kind == 0 && follows(t, s, x.App, joiner) {
			t.Error("App follows from Joiner without a context that is secret")
		}
	}
}

func TestP103Next(t *testing.T) {
	s := term.New()
	init, commit, context := put(t, s, random(1)), put(t, s, random(2)), put(t, s, random(3))
	x, e := sched.Next(s, init, commit, context)
	if e != api.OK {
		t.Fatal(e)
	}
	checkApart(t, s, x)
	checkApart(t, s, x, init, context)
	checkApart(t, s, x, commit, context)
	for _, n := range []int{x.Joiner, x.Epoch, x.Init, x.Export, x.Outer, x.App} {
		if !follows(t, s, n, init, commit, context) {
			t.Error(n, "does not follow from all three")
		}
	}
	for _, n := range []int{init, commit, context} {
		if follows(t, s, n, x.Joiner, x.Epoch, x.Init, x.Export, x.Outer, x.App) {
			t.Error(n, "follows from the epoch's secrets")
		}
	}
}

// TestP103Row goes on from epoch to epoch, each with a commit's secret of its own, and a public context. Who knows one epoch's
// secrets has none of another one: of one behind only with all that the commits between have brought.
func TestP103Row(t *testing.T) {
	s := term.New()
	tree := read(s, "m5 P m6")
	pubs := []int{tree.Nodes[0].Pub, tree.Nodes[1].Pub, tree.Nodes[2].Pub}
	init := put(t, s, data(0))
	var row []api.Secrets
	var commits []int
	for epoch := range 5 {
		context, e := sched.Context(s, 3, epoch, tree)
		commits = append(commits, put(t, s, random(int64(epoch))))
		x, f := sched.Next(s, init, commits[epoch], context)
		if e != api.OK || f != api.OK || !follows(t, s, context, pubs...) {
			t.Fatal(epoch, e, f)
		}
		row, init = append(row, x), x.Init
	}
	for i, x := range row {
		checkApart(t, s, x, pubs...)
		known := append([]int{x.Joiner, x.Epoch, x.Init, x.Export, x.Outer, x.App}, pubs...)
		for j, y := range row {
			if i != j && (follows(t, s, y.App, known...) || follows(t, s, y.Export, known...)) {
				t.Error(i, "tells", j)
			}
			if j > 0 && follows(t, s, y.App, append(known, commits[i+1:]...)...) != (j >= i) {
				t.Error(i, "and the commits behind it:", j)
			}
		}
	}
}
