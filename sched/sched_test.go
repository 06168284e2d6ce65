package sched_test

import (
	"fmt"
	"math"
	"slices"
	"strconv"
	"strings"
	"testing"

	"phratry/api"
	"phratry/sched"
	"phratry/term"
)

// wild are numbers at the edges of int, none of them a term of a small store.
var wild = []int{math.MinInt, math.MinInt + 1, -1 << 32, -8, -2, -1, 1 << 20, 1<<20 + 1, 1 << 32, 1<<32 + 1, math.MaxInt - 1, math.MaxInt}

func random(n int64) api.Term            { return api.Term{Kind: api.TmRand, N: n} }
func data(n int64) api.Term              { return api.Term{Kind: api.TmData, N: n} }
func pair(a, b int) api.Term             { return api.Term{Kind: api.TmPair, A: a, B: b} }
func kdf(label int64, a, b int) api.Term { return api.Term{Kind: api.TmKdf, N: label, A: a, B: b} }
func public(a int) api.Term              { return api.Term{Kind: api.TmPub, A: a} }
func sealed(a, b int) api.Term           { return api.Term{Kind: api.TmSeal, A: a, B: b} }
func hash(a int) api.Term                { return api.Term{Kind: api.TmHash, A: a} }

// put makes a term that must go.
func put(t *testing.T, s *term.Store, x api.Term) int {
	t.Helper()
	n, e := s.Make(x)
	if e != api.OK {
		t.Fatal(x, e)
	}
	return n
}

// kinds is a store with a term of each kind, from 1 to 7.
func kinds(t *testing.T) *term.Store {
	t.Helper()
	s := term.New()
	for i, x := range []api.Term{random(7), data(-3), pair(1, 2), kdf(4, 1, 0), public(1), sealed(5, 3), hash(2)} {
		if put(t, s, x) != i+1 {
			t.Fatal(i)
		}
	}
	return s
}

// lost are stores that are not there.
func lost() []*term.Store { return []*term.Store{nil, {}} }

// all tells what a store has.
func all(s *term.Store) []api.Term {
	var l []api.Term
	for n := 1; n <= s.Len(); n++ {
		x, _ := s.Get(n)
		l = append(l, x)
	}
	return l
}

// read is a tree that chapter 8's writing tells: the Pub of a node is the public key of rand 100 + its place, the Epoch of a leaf 50 + its place.
func read(s *term.Store, text string) api.Tree {
	var t api.Tree
	for i, word := range strings.Fields(text) {
		n := api.Node{}
		if word != "." {
			secret, _ := s.Make(random(int64(100 + i)))
			n.Pub, _ = s.Make(public(secret))
		}
		switch word[0] {
		case 'm':
			n.Member, _ = strconv.Atoi(word[1:])
			n.Epoch = 50 + i
		case 'P':
			for _, leaf := range strings.Split(strings.Trim(word, "P{}"), ",") {
				if number, e := strconv.Atoi(leaf); e == nil {
					n.Unmerged = append(n.Unmerged, number)
				}
			}
		}
		t.Nodes = append(t.Nodes, n)
	}
	return t
}

// told writes a context out: its list, data by their numbers, the Pubs of read by a star and the number of what was drawn.
func told(s *term.Store, context int) string {
	x, _ := s.Get(context)
	if x.Kind != api.TmHash {
		return "no hash"
	}
	var l []string
	for n := x.A; n != 0; {
		y, _ := s.Get(n)
		n = 0
		if y.Kind == api.TmPair {
			n = y.B
			y, _ = s.Get(y.A)
		}
		switch z, _ := s.Get(y.A); y.Kind {
		case api.TmData:
			l = append(l, strconv.FormatInt(y.N, 10))
		case api.TmPub:
			l = append(l, "*"+strconv.FormatInt(z.N, 10))
		default:
			l = append(l, fmt.Sprint(y))
		}
	}
	return strings.Join(l, " ")
}

func TestP101Context(t *testing.T) {
	for _, c := range []struct {
		group, epoch int
		tree, want   string
	}{
		{3, 4, "", "3 4"},
		{-1, 0, "", "-1 0"},
		{1, 1, "", "1 1"},
		{3, 4, "m5", "3 4 0 *100 5 50"},
		{3, 4, "m0", "3 4 0 *100 0 50"},
		{3, 4, "m5 . m6", "3 4 0 *100 5 50 2 *102 6 52"},
		{3, 4, "m5 P m6", "3 4 0 *100 5 50 1 *101 2 *102 6 52"},
		{3, 4, ". . m6", "3 4 2 *102 6 52"},
		{3, 4, ". P{1} m6", "3 4 1 *101 1 2 *102 6 52"},
		{3, 4, "m5 P{0,1} m6", "3 4 0 *100 5 50 1 *101 0 1 2 *102 6 52"},
		{-64, 2, "m5 P m6 P{3} m7 . m8", "-64 2 0 *100 5 50 1 *101 2 *102 6 52 3 *103 3 4 *104 7 54 6 *106 8 56"},
		{63, 0, "m9 P{1} m8 P m7 P .", "63 0 0 *100 9 50 1 *101 1 2 *102 8 52 3 *103 4 *104 7 54 5 *105"},
		{0, 1, "m1 . . . . . . P{4,7} m5 P{4} m6 . . P{7} m8",
			"0 1 0 *100 1 50 7 *107 4 7 8 *108 5 58 9 *109 4 10 *110 6 60 13 *113 7 14 *114 8 64"},
		{math.MinInt, math.MaxInt, "m9", "-9223372036854775808 9223372036854775807 0 *100 9 50"},
		{math.MaxInt, -1, "", "9223372036854775807 -1"},
	} {
		s := term.New()
		x := read(s, c.tree)
		n, e := sched.Context(s, c.group, c.epoch, x)
		if e != api.OK || told(s, n) != c.want {
			t.Errorf("Context(%d, %d, %s) = %s, %v, not %s", c.group, c.epoch, c.tree, told(s, n), e, c.want)
		}
		many := s.Len()
		if again, e := sched.Context(s, c.group, c.epoch, x); again != n || e != api.OK || s.Len() != many {
			t.Error(c.tree, "again", again, n, e)
		}
	}
}

// TestP101TermByTerm: the list stands in the store as term.Store's List lays it, and beside it there is nothing.
func TestP101TermByTerm(t *testing.T) {
	s := term.New()
	n, e := sched.Context(s, 5, 6, read(s, ". . m7"))
	if e != api.OK {
		t.Fatal(e)
	}
	want := []api.Term{data(5), data(6), data(2), random(102), public(4), data(7), data(52), pair(6, 7), pair(5, 8), pair(3, 9), pair(2, 10), pair(1, 11), hash(12)}
	if got := s.Dag(n); !slices.Equal(got, want) {
		t.Error(got)
	}
	if s.Len() != len(want) {
		t.Error(all(s))
	}
}

// TestP101AnyPub: a Pub may be a term of any kind, one for two nodes too.
func TestP101AnyPub(t *testing.T) {
	for pub := 1; pub <= 7; pub++ {
		s := kinds(t)
		x := api.Tree{Nodes: []api.Node{{Pub: pub, Member: 1, Epoch: 2}, {Pub: pub}, {Pub: 8 - pub, Member: 3, Epoch: 4}}}
		n, e := sched.Context(s, 8, 9, x)
		if e != api.OK || n != plainContext(t, s, 8, 9, x) {
			t.Error(pub, n, e)
		}
	}
}

// TestP101EachTells: epochs that differ in one thing alone have two contexts.
func TestP101EachTells(t *testing.T) {
	s := kinds(t)
	node := func(pub, member, epoch int, unmerged ...int) api.Node {
		return api.Node{Pub: pub, Member: member, Epoch: epoch, Unmerged: unmerged}
	}
	two := func(a, b, c api.Node) api.Tree { return api.Tree{Nodes: []api.Node{a, b, c}} }
	base := two(node(1, 5, 8), node(2, 0, 0), node(3, 6, 9))
	var seen []int
	for _, c := range []struct {
		group, epoch int
		t            api.Tree
	}{
		{0, 0, api.Tree{}}, {0, 1, api.Tree{}}, {1, 0, api.Tree{}}, {-1, 0, api.Tree{}},
		{0, 0, base}, {0, 1, base}, {1, 0, base}, {-1, 0, base}, {5, 6, base}, {6, 5, base},
		{0, 0, two(node(4, 5, 8), node(2, 0, 0), node(3, 6, 9))},
		{0, 0, two(node(1, 4, 8), node(2, 0, 0), node(3, 6, 9))},
		{0, 0, two(node(1, 5, 7), node(2, 0, 0), node(3, 6, 9))},
		{0, 0, two(node(1, 5, 8), node(4, 0, 0), node(3, 6, 9))},
		{0, 0, two(node(1, 5, 8), api.Node{}, node(3, 6, 9))},
		{0, 0, two(node(1, 5, 8), node(2, 0, 0, 0), node(3, 6, 9))},
		{0, 0, two(node(1, 5, 8), node(2, 0, 0, 1), node(3, 6, 9))},
		{0, 0, two(node(1, 5, 8), node(2, 0, 0, 0, 1), node(3, 6, 9))},
		{0, 0, two(api.Node{}, node(2, 0, 0), node(3, 6, 9))},
		{0, 0, two(node(1, 6, 8), node(2, 0, 0), node(3, 5, 9))},
		{0, 0, two(node(3, 5, 8), node(2, 0, 0), node(1, 6, 9))},
		{0, 0, two(node(1, 5, 9), node(2, 0, 0), node(3, 6, 8))},
		{0, 0, api.Tree{Nodes: []api.Node{node(1, 5, 8)}}},
		{0, 0, api.Tree{Nodes: []api.Node{node(1, 5, 8), node(2, 0, 0), {}, {}, node(3, 6, 9), {}, {}}}},
		{0, 0, api.Tree{Nodes: []api.Node{node(1, 5, 8), node(2, 0, 0), {}, {}, {}, {}, node(3, 6, 9)}}},
	} {
		n, e := sched.Context(s, c.group, c.epoch, c.t)
		if e != api.OK || slices.Contains(seen, n) {
			t.Error(c, n, e)
		}
		seen = append(seen, n)
	}
}

// noTrees are trees that a store of seven terms does not hold.
func noTrees() map[string]api.Tree {
	nodes := func(l ...api.Node) api.Tree { return api.Tree{Nodes: l} }
	leaf := func(pub, member int) api.Node { return api.Node{Pub: pub, Member: member} }
	return map[string]api.Tree{
		"two nodes":        nodes(leaf(1, 1), leaf(2, 2)),
		"two blank nodes":  nodes(api.Node{}, api.Node{}),
		"blank":            nodes(api.Node{}),
		"right half blank": nodes(leaf(1, 1), api.Node{}, api.Node{}),
		"one member twice": nodes(leaf(1, 1), api.Node{}, leaf(2, 1)),
		"leaf below 0":     nodes(leaf(-1, 1)),
		"member below 0":   nodes(leaf(1, -1)),
		"epoch below 0":    nodes(api.Node{Pub: 1, Epoch: -1}),
		"parent's member":  nodes(leaf(1, 1), leaf(1, 3), leaf(2, 2)),
		"leaf's unmerged":  nodes(api.Node{Pub: 1, Unmerged: []int{0}}),
		"falling unmerged": nodes(leaf(1, 1), api.Node{Pub: 1, Unmerged: []int{1, 0}}, leaf(2, 2)),
		"blank unmerged":   nodes(api.Node{}, api.Node{Pub: 1, Unmerged: []int{0}}, leaf(2, 2)),
		"wide":             {Nodes: slices.Repeat([]api.Node{{Pub: 1}}, 31)},
		"no term":          nodes(leaf(8, 1)),
		"no term, far":     nodes(leaf(math.MaxInt, 1)),
		"one leaf no term": nodes(leaf(1, 1), leaf(2, 0), leaf(8, 2)),
		"a parent no term": nodes(leaf(1, 1), leaf(1<<32+1, 0), leaf(3, 2)),
	}
}

func TestP101Wrong(t *testing.T) {
	s := kinds(t)
	before := all(s)
	for what, x := range noTrees() {
		for _, n := range append(wild, 0, 1) {
			if c, e := sched.Context(s, n, 1, x); c != 0 || e != api.ErrArg {
				t.Error(what, c, e)
			}
			if c, e := sched.Context(s, 1, n, x); c != 0 || e != api.ErrArg {
				t.Error(what, c, e)
			}
		}
		for _, none := range lost() {
			if c, e := sched.Context(none, 1, 1, x); c != 0 || e != api.ErrNil {
				t.Error(what, c, e)
			}
		}
	}
	for _, none := range lost() {
		for _, x := range []api.Tree{{}, {Nodes: []api.Node{{Pub: 1}}}} {
			if c, e := sched.Context(none, 1, 1, x); c != 0 || e != api.ErrNil {
				t.Error(x, c, e)
			}
		}
	}
	// A tree with terms of another store.
	if c, e := sched.Context(term.New(), 1, 1, api.Tree{Nodes: []api.Node{{Pub: 1}}}); c != 0 || e != api.ErrArg {
		t.Error(c, e)
	}
	if !slices.Equal(all(s), before) {
		t.Error("changed", all(s))
	}
}

// checkSecrets holds the secrets of an epoch against the table of the chapter, term by term.
func checkSecrets(t *testing.T, s *term.Store, x api.Secrets, context int) {
	t.Helper()
	for _, c := range []struct {
		n    int
		want api.Term
	}{
		{x.Epoch, kdf(4, x.Joiner, context)},
		{x.Init, kdf(5, x.Epoch, 0)},
		{x.Export, kdf(6, x.Epoch, 0)},
		{x.Outer, kdf(7, x.Epoch, 0)},
		{x.App, kdf(8, x.Epoch, 0)},
	} {
		if got, ok := s.Get(c.n); !ok || got != c.want {
			t.Error(got, "not", c.want)
		}
	}
}

func TestP102From(t *testing.T) {
	for joiner := 1; joiner <= 7; joiner++ {
		for context := 1; context <= 7; context++ {
			s := kinds(t)
			x, e := sched.From(s, joiner, context)
			if e != api.OK || x.Joiner != joiner || s.Len() != 12 {
				t.Fatal(joiner, context, x, e, s.Len())
			}
			checkSecrets(t, s, x, context)
			if again, e := sched.From(s, joiner, context); again != x || e != api.OK || s.Len() != 12 {
				t.Error(joiner, context, again, e)
			}
		}
	}
}

func TestP102Next(t *testing.T) {
	for init := 1; init <= 7; init++ {
		for commit := 1; commit <= 7; commit++ {
			s := kinds(t)
			before := s.Len()
			context := 1 + (init+commit)%7
			x, e := sched.Next(s, init, commit, context)
			if e != api.OK {
				t.Fatal(init, commit, e)
			}
			joiner, _ := s.Get(x.Joiner)
			if joiner != kdf(3, joiner.A, 0) {
				t.Error(init, commit, joiner)
			}
			if both, _ := s.Get(joiner.A); both != pair(init, commit) {
				t.Error(init, commit, both)
			}
			checkSecrets(t, s, x, context)
			made := 7
			if init == 1 && commit == 2 { // that pair is there
				made = 6
			}
			if s.Len() != before+made {
				t.Error(init, commit, all(s))
			}
			if y, e := sched.From(s, x.Joiner, context); y != x || e != api.OK || s.Len() != before+made {
				t.Error("From of its Joiner", y, e)
			}
			if y, e := sched.Next(s, init, commit, context); y != x || e != api.OK || s.Len() != before+made {
				t.Error("again", y, e)
			}
		}
	}
}

// TestP102Example is the chapter's: each secret by the number of its label.
func TestP102Example(t *testing.T) {
	s := term.New()
	for n := range 3 {
		put(t, s, random(int64(n)))
	}
	x, e := sched.Next(s, 1, 2, 3)
	if e != api.OK || s.Len() != 10 {
		t.Fatal(x, e, s.Len())
	}
	joiner := []api.Term{random(0), random(1), pair(1, 2), kdf(3, 3, 0)}
	epoch := append(slices.Clone(joiner), random(2), kdf(4, 4, 5))
	for n, want := range map[int][]api.Term{
		x.Joiner: joiner,
		x.Epoch:  epoch,
		x.Init:   append(slices.Clone(epoch), kdf(5, 6, 0)),
		x.Export: append(slices.Clone(epoch), kdf(6, 6, 0)),
		x.Outer:  append(slices.Clone(epoch), kdf(7, 6, 0)),
		x.App:    append(slices.Clone(epoch), kdf(8, 6, 0)),
	} {
		if got := s.Dag(n); !slices.Equal(got, want) {
			t.Error(got, "not", want)
		}
	}
}

// TestP102EachTells: what differs in one of its arguments has no secret in common, of From but the Joiner.
func TestP102EachTells(t *testing.T) {
	s := kinds(t)
	var seen []int
	for _, l := range [][3]int{{1, 2, 3}, {2, 1, 3}, {1, 2, 4}, {1, 3, 2}, {4, 2, 3}, {1, 1, 3}, {2, 2, 3}, {3, 3, 3}} {
		x, e := sched.Next(s, l[0], l[1], l[2])
		if e != api.OK {
			t.Fatal(l, e)
		}
		for _, n := range []int{x.Epoch, x.Init, x.Export, x.Outer, x.App} {
			if slices.Contains(seen, n) || n <= 7 {
				t.Error(l, n)
			}
			seen = append(seen, n)
		}
	}
}

func TestP102Wrong(t *testing.T) {
	s := kinds(t)
	before := all(s)
	from := func(s *term.Store, joiner, context int, want api.Errno) {
		t.Helper()
		if x, e := sched.From(s, joiner, context); x != (api.Secrets{}) || e != want {
			t.Error("From", joiner, context, x, e)
		}
	}
	next := func(s *term.Store, init, commit, context int, want api.Errno) {
		t.Helper()
		if x, e := sched.Next(s, init, commit, context); x != (api.Secrets{}) || e != want {
			t.Error("Next", init, commit, context, x, e)
		}
	}
	for _, n := range append(wild, 0, 8, 9) {
		from(s, n, 1, api.ErrArg)
		from(s, 1, n, api.ErrArg)
		from(s, n, n, api.ErrArg)
		next(s, n, 1, 1, api.ErrArg)
		next(s, 1, n, 1, api.ErrArg)
		next(s, 1, 1, n, api.ErrArg)
		next(s, n, n, n, api.ErrArg)
	}
	from(term.New(), 1, 1, api.ErrArg)
	next(term.New(), 1, 1, 1, api.ErrArg)
	for _, none := range lost() {
		for _, n := range append(wild, 0, 1) {
			from(none, n, 1, api.ErrNil)
			from(none, 1, n, api.ErrNil)
			next(none, n, 1, 1, api.ErrNil)
			next(none, 1, 1, n, api.ErrNil)
		}
	}
	if !slices.Equal(all(s), before) {
		t.Error("changed", all(s))
	}
}
