package group_test

import (
	"fmt"
	"math"
	"slices"
	"testing"

	"phratry/api"
	"phratry/group"
	"phratry/term"
)

// copyOf is a commit in memory of its own, to be spoiled.
func copyOf(c api.Commit) api.Commit {
	c.Adds, c.Removes, c.Seals, c.Joins = slices.Clone(c.Adds), slices.Clone(c.Removes), slices.Clone(c.Seals), slices.Clone(c.Joins)
	c.Next = copyOfTree(c.Next)
	return c
}

func copyOfTree(t api.Tree) api.Tree {
	t.Nodes = slices.Clone(t.Nodes)
	for i, n := range t.Nodes {
		t.Nodes[i].Unmerged = slices.Clone(n.Unmerged)
	}
	return t
}

// with is a commit with something changed.
func with(c api.Commit, by func(c *api.Commit)) api.Commit {
	c = copyOf(c)
	by(&c)
	return c
}

// badCommits are commits that may not be, each by one thing of a good one alone.
func badCommits(good api.Commit) map[string]api.Commit {
	l := map[string]api.Commit{}
	for _, n := range append([]int{0}, wild...) {
		l[fmt.Sprint("Face ", n)] = with(good, func(c *api.Commit) { c.Face = n })
		if n != 0 {
			l[fmt.Sprint("Pub ", n)] = with(good, func(c *api.Commit) { c.Next.Nodes[1].Pub = n })
		}
		if n < 0 {
			l[fmt.Sprint("Epoch ", n)] = with(good, func(c *api.Commit) { c.Epoch = n })
		}
	}
	l["two nodes"] = with(good, func(c *api.Commit) { c.Next.Nodes = c.Next.Nodes[:2] })
	l["a member twice"] = with(good, func(c *api.Commit) { c.Next.Nodes[2].Member = c.Next.Nodes[0].Member })
	return l
}

// four is the group 4 of the members 8, 9, 7 and 6, at the leaves 0 to 3, at the epoch 3, with no blank node: 8 let 9 in,
// then 7 and 6 (the epoch 2); the last commit is one of 7. Their cards are those of rand 2, 12 and 13.
type four struct {
	bench
	before, states map[int]api.State
	commit         api.Commit
}

func newFour(t *testing.T) four {
	t.Helper()
	b, a, o, _ := two(t)
	x := four{bench: b, states: map[int]api.State{}}
	come := []api.Add{{Member: 7, Pub: b.card(b.rand(12))}, {Member: 6, Pub: b.card(b.rand(13))}}
	a, c, e := group.Commit(b.s, a, group.Plan{By: 8, Member: 8, Seed: b.rand(4), Own: b.rand(5), Adds: come})
	same(t, "Commit", e, api.OK)
	x.before = map[int]api.State{8: a}
	x.before[9] = x.must(group.Follow(b.s, o, c))
	x.before[7] = x.must(group.Enter(b.s, c, 7, b.rand(12)))
	x.before[6] = x.must(group.Enter(b.s, c, 6, b.rand(13)))
	x.states[7], x.commit, e = group.Commit(b.s, x.before[7], group.Plan{By: 7, Member: 7, KeyEpoch: 1, Seed: b.rand(6), Own: b.rand(7)})
	same(t, "Commit", e, api.OK)
	for _, m := range []int{8, 9, 6} {
		x.states[m] = x.must(group.Follow(b.s, x.before[m], x.commit))
	}
	return x
}

// must is an answer that came with no error.
func (b bench) must(st api.State, e api.Errno) api.State {
	b.t.Helper()
	same(b.t, "error", e, api.OK)
	return st
}

func (b bench) follow(st api.State, c api.Commit, what string, want api.Errno) {
	b.t.Helper()
	closed(b.t, b.s, what, want, func() (api.State, api.Errno) { return group.Follow(b.s, st, c) })
}

func (b bench) enter(c api.Commit, member, secret int, what string, want api.Errno) {
	b.t.Helper()
	closed(b.t, b.s, what, want, func() (api.State, api.Errno) { return group.Enter(b.s, c, member, secret) })
}

func (b bench) own(c api.Commit, own int, what string, want api.Errno) {
	b.t.Helper()
	closed(b.t, b.s, what, want, func() (api.State, api.Errno) { return group.Own(b.s, c, own) })
}

// TestExamples are the chapter's.
func TestExamples(t *testing.T) {
	b, a, o, _ := two(t)
	same(t, "the same Epoch secret", a.Now, o.Now)
	o2, c, e := group.Commit(b.s, o, group.Plan{By: 9, Member: 9, Seed: b.rand(4)})
	same(t, "Commit", e, api.OK)
	a2 := b.must(group.Follow(b.s, a, c))
	same(t, "likewise", a2.Now, o2.Now)
	b.follow(a2, c, "what it follows already", api.ErrStale)
	_, out, e := group.Commit(b.s, a2, group.Plan{By: 8, Member: 8, Seed: b.rand(5), Removes: []int{9}})
	same(t, "Commit", e, api.OK)
	b.follow(o2, out, "without b", api.ErrOut)
	x, back, e := group.External(b.s, group.FaceOf(c), group.Plan{By: 5, Member: 5, Seed: b.rand(6), Entry: b.rand(7)})
	same(t, "External", e, api.OK)
	same(t, "the same", b.must(group.Follow(b.s, a2, back)).Now, x.Now)
	ignorant := a2
	ignorant.Now.Outer = a.Now.Outer
	b.follow(ignorant, back, "who does not know Outer", api.ErrKey)
}

// TestP124Follow: the words of the chapter, term by term.
func TestP124Follow(t *testing.T) {
	x := newFour(t)
	seed := x.rand(6)
	five, three := x.next(seed, 1), x.next(seed, 2)
	next := copyOfTree(x.before[8].Tree)
	next.Nodes[4], next.Nodes[5], next.Nodes[3] = x.leaf(seed, 7, 1), api.Node{Pub: x.pub(five)}, api.Node{Pub: x.pub(three)}
	now := x.secrets(x.joiner(x.before[8].Now.Init, x.next(seed, 3)), x.context(4, 3, next))
	one := api.Key{Node: 1, Secret: x.key(x.next(x.rand(4), 1))}
	top := api.Key{Node: 3, Secret: x.key(three)}
	for m, keys := range map[int][]api.Key{
		8: {{Node: 0, Secret: x.key(x.rand(4))}, one, top},
		9: {one, {Node: 2, Secret: x.rand(2)}, top},
		6: {top, {Node: 5, Secret: x.key(five)}, {Node: 6, Secret: x.rand(13)}},
	} {
		st := x.before[m]
		st.Sent = 9
		got := x.must(group.Follow(x.s, st, x.commit))
		same(t, fmt.Sprint("of ", m), got, api.State{Group: 4, Epoch: 3, Member: m, Leaf: st.Leaf, Tree: next, Keys: keys, Now: now})
	}
	same(t, "the maker", x.states[7].Now, now)
}

// TestP124External: the secrets begin with Entry, whether that is sealed with Outer's public key or with Outer itself.
func TestP124External(t *testing.T) {
	x := newFour(t)
	seed, entry := x.rand(21), x.rand(22)
	for _, member := range []int{5, 6} {
		f := group.FaceOf(x.commit)
		for _, pub := range []int{x.commit.Face, x.states[8].Now.Outer} {
			f.Pub = pub
			n, c, e := group.External(x.s, f, group.Plan{By: 5, Member: member, Seed: seed, Entry: entry})
			same(t, "External", e, api.OK)
			now := x.secrets(x.joiner(entry, x.next(seed, len(n.Keys))), x.context(4, 4, c.Next))
			same(t, "the maker", n.Now, now)
			for _, m := range []int{8, 9, 7} {
				got := x.must(group.Follow(x.s, x.states[m], c))
				same(t, "secrets", got.Now, now)
				same(t, "tree", got.Tree, c.Next)
				same(t, "the rest", []int{got.Group, got.Epoch, got.Member, got.Leaf, got.Sent}, []int{4, 4, m, x.states[m].Leaf, 0})
			}
		}
	}
}

func TestP124Wrong(t *testing.T) {
	x := newFour(t)
	st := x.before[8]
	for _, s := range lost() {
		closed(t, s, "no store", api.ErrNil, func() (api.State, api.Errno) { return group.Follow(s, st, x.commit) })
		closed(t, s, "nothing", api.ErrNil, func() (api.State, api.Errno) { return group.Follow(s, api.State{}, api.Commit{}) })
	}
	x.follow(api.State{}, api.Commit{}, "nothing", api.ErrArg)
	for what, bad := range badStates(st, st.Tree.Nodes[0]) {
		x.follow(bad, x.commit, what, api.ErrArg)
	}
	for what, bad := range badCommits(x.commit) {
		x.follow(st, bad, what, api.ErrArg)
		bad.Epoch = min(bad.Epoch, 1)
		x.follow(st, bad, what+", stale too", api.ErrArg)
	}
	for _, g := range []int{3, 5, -4, 0, math.MinInt, math.MaxInt} {
		x.follow(st, with(x.commit, func(c *api.Commit) { c.Group = g }), fmt.Sprint("group ", g), api.ErrArg)
		x.follow(st, with(x.commit, func(c *api.Commit) { c.Group, c.Epoch = g, 0 }), fmt.Sprint("stale, group ", g), api.ErrArg)
	}
	for _, n := range []int{0, 1, 2, 4, 5, math.MaxInt - 1, math.MaxInt} {
		x.follow(st, with(x.commit, func(c *api.Commit) { c.Epoch = n }), fmt.Sprint("epoch ", n), api.ErrStale)
		x.follow(st, with(x.commit, func(c *api.Commit) { c.Epoch, c.Next = n, api.Tree{} }), fmt.Sprint("out, epoch ", n), api.ErrStale)
	}
	late := st
	late.Epoch = math.MaxInt
	for _, n := range []int{0, 3, math.MaxInt} {
		x.follow(late, with(x.commit, func(c *api.Commit) { c.Epoch = n }), "the last epoch", api.ErrStale)
	}
}

// TestP124Out: whoever is not in Next is out, whatever else is wrong with it.
func TestP124Out(t *testing.T) {
	x := newFour(t)
	_, c, e := group.Commit(x.s, x.states[7], group.Plan{Member: 7, Seed: x.rand(21), Removes: []int{9, 8}})
	same(t, "Commit", e, api.OK)
	for _, m := range []int{8, 9} {
		x.follow(x.states[m], c, "out", api.ErrOut)
		x.follow(x.states[m], with(c, func(c *api.Commit) { c.Member = m }), "out, and its own", api.ErrOut)
		x.follow(x.states[m], with(c, func(c *api.Commit) { c.Removes, c.Seals = nil, nil }), "out, and not by Removes", api.ErrOut)
		x.follow(x.states[m], with(c, func(c *api.Commit) { c.Next = api.Tree{} }), "nobody is in", api.ErrOut)
		x.follow(x.states[m], with(c, func(c *api.Commit) { c.External = true }), "out, by one from outside", api.ErrOut)
	}
	same(t, "6 is in", x.must(group.Follow(x.s, x.states[6], c)).Epoch, 4)
}

// TestP124Rule: its own commits, and those whose Next does not come of its tree.
func TestP124Rule(t *testing.T) {
	x := newFour(t)
	x.follow(x.before[7], x.commit, "its own", api.ErrRule)
	x.follow(x.before[8], with(x.commit, func(c *api.Commit) { c.Member = 8 }), "as if its own", api.ErrRule)
	other := x.card(x.rand(40))
	spoil := map[string]func(c *api.Commit){
		"another maker":         func(c *api.Commit) { c.Member = 9 },
		"a maker who is not in": func(c *api.Commit) { c.Member = 5 },
		"a maker below 0":       func(c *api.Commit) { c.Member = -1 },
		"KeyEpoch":              func(c *api.Commit) { c.KeyEpoch++ },
		"KeyEpoch below 0":      func(c *api.Commit) { c.KeyEpoch = -1 },
		"an Add":                func(c *api.Commit) { c.Adds = []api.Add{{Member: 5, Pub: other}} },
		"an Add that is in":     func(c *api.Commit) { c.Adds = []api.Add{{Member: 6, Pub: other}} },
		"an Add below 0":        func(c *api.Commit) { c.Adds = []api.Add{{Member: -6, Pub: -1}} },
		"a Remove":              func(c *api.Commit) { c.Removes = []int{6} },
		"a Remove of the maker": func(c *api.Commit) { c.Removes = []int{7} },
		"one who is not in":     func(c *api.Commit) { c.Removes = []int{5} },
		"many Removes":          func(c *api.Commit) { c.Removes = []int{9, 7, 6, 8, 8, 8, 8, 8, 8, 8, 8, 8} },
		"a lesser tree":         func(c *api.Commit) { c.Next.Nodes = c.Next.Nodes[:3] },
		"a leaf alone":          func(c *api.Commit) { c.Next.Nodes = c.Next.Nodes[:1] },
		"a greater tree": func(c *api.Commit) {
			c.Next.Nodes = append(c.Next.Nodes, append(make([]api.Node, 7), c.Next.Nodes[6])...)
			c.Next.Nodes[6] = api.Node{}
		},
		"another leaf's Pub":   func(c *api.Commit) { c.Next.Nodes[2].Pub = other },
		"another leaf's Epoch": func(c *api.Commit) { c.Next.Nodes[6].Epoch = 1 },
		"another one's name":   func(c *api.Commit) { c.Next.Nodes[6].Member = 5 },
		"another parent's Pub": func(c *api.Commit) { c.Next.Nodes[1].Pub = other },
		"a blank parent":       func(c *api.Commit) { c.Next.Nodes[1] = api.Node{} },
		"a blank leaf":         func(c *api.Commit) { c.Next.Nodes[6] = api.Node{} },
		"unmerged elsewhere":   func(c *api.Commit) { c.Next.Nodes[1].Unmerged = []int{1} },
		"unmerged on the path": func(c *api.Commit) { c.Next.Nodes[3].Unmerged = []int{1} },
		"unmerged itself":      func(c *api.Commit) { c.Next.Nodes[5].Unmerged = []int{2} },
		"blank on the path":    func(c *api.Commit) { c.Next.Nodes[5] = api.Node{} },
		"blank at the top":     func(c *api.Commit) { c.Next.Nodes[3] = api.Node{} },
		"the maker's leaf":     func(c *api.Commit) { c.Next.Nodes[4].Epoch = 0 },
		"leaves changed over":  func(c *api.Commit) { c.Next.Nodes[4], c.Next.Nodes[6] = c.Next.Nodes[6], c.Next.Nodes[4] },
	}
	for what, by := range spoil {
		bad := with(x.commit, by)
		x.follow(x.before[8], bad, what, api.ErrRule)
		bad.Face = other
		x.follow(x.before[8], bad, what+", and a wrong Face", api.ErrRule)
		bad.Seals = nil
		x.follow(x.before[8], bad, what+", and no seals", api.ErrRule)
	}
	// The tree that it has counts, not the one that it ought to have.
	st := x.before[8]
	st.Tree = copyOfTree(st.Tree)
	st.Tree.Nodes[6].Pub = other
	x.follow(st, x.commit, "another tree before", api.ErrRule)
}

// TestP124RuleOfPlans: of a commit that lets members come and go, each of them counts.
func TestP124RuleOfPlans(t *testing.T) {
	x := newFour(t)
	other := x.card(x.rand(40))
	come := []api.Add{{Member: 5, Epoch: 2, Pub: x.card(x.rand(41))}, {Member: 4, Pub: x.card(x.rand(42))}}
	_, good, e := group.Commit(x.s, x.states[7], group.Plan{Member: 7, Seed: x.rand(21), Adds: come, Removes: []int{9}})
	same(t, "Commit", e, api.OK)
	same(t, "Follow", x.must(group.Follow(x.s, x.states[8], good)).Epoch, 4)
	for what, by := range map[string]func(c *api.Commit){
		"no Remove":         func(c *api.Commit) { c.Removes = nil },
		"a Remove more":     func(c *api.Commit) { c.Removes = append(c.Removes, 6) },
		"a Remove twice":    func(c *api.Commit) { c.Removes = append(c.Removes, 9) },
		"another Remove":    func(c *api.Commit) { c.Removes[0] = 6 },
		"an Add less":       func(c *api.Commit) { c.Adds = c.Adds[:1] },
		"no Adds":           func(c *api.Commit) { c.Adds = nil },
		"an Add more":       func(c *api.Commit) { c.Adds = append(c.Adds, api.Add{Member: 3, Pub: other}) },
		"an Add's Pub":      func(c *api.Commit) { c.Adds[0].Pub = other },
		"an Add's Epoch":    func(c *api.Commit) { c.Adds[0].Epoch = 1 },
		"an Add's Member":   func(c *api.Commit) { c.Adds[1].Member = 3 },
		"in another order":  func(c *api.Commit) { c.Adds[0], c.Adds[1] = c.Adds[1], c.Adds[0] },
		"the other way":     func(c *api.Commit) { c.External = true },
		"unmerged no more":  func(c *api.Commit) { c.Next.Nodes[5].Unmerged = []int{3} },
		"too many of a Pub": func(c *api.Commit) { c.Adds = append(c.Adds, tooMany(other)...) },
	} {
		x.follow(x.states[8], with(good, by), what, api.ErrRule)
	}
}

// TestP124RuleOfExternals: what one from outside makes of a tree is its own leaf alone.
func TestP124RuleOfExternals(t *testing.T) {
	x := newFour(t)
	other := x.card(x.rand(40))
	for member, wrong := range map[int]int{5: 6, 6: 5} {
		_, good, e := group.External(x.s, group.FaceOf(x.commit), group.Plan{Member: member, KeyEpoch: 2, Seed: x.rand(21), Entry: x.rand(22)})
		same(t, "External", e, api.OK)
		same(t, "Follow", x.must(group.Follow(x.s, x.states[8], good)).Epoch, 4)
		for what, by := range map[string]func(c *api.Commit){
			"not external":   func(c *api.Commit) { c.External = false },
			"another maker":  func(c *api.Commit) { c.Member = wrong },
			"below 0":        func(c *api.Commit) { c.Member = -1 },
			"KeyEpoch":       func(c *api.Commit) { c.KeyEpoch = 0 },
			"KeyEpoch below": func(c *api.Commit) { c.KeyEpoch = -1 },
			"another leaf":   func(c *api.Commit) { c.Next.Nodes[2].Pub = other },
			"another parent": func(c *api.Commit) { c.Next.Nodes[1].Pub = other },
		} {
			x.follow(x.states[8], with(good, by), what, api.ErrRule)
			bad := with(good, by)
			bad.Entry = 0
			x.follow(x.states[8], bad, what+", and no Entry", api.ErrRule)
		}
	}
	// Of a group that is full nobody can come of it.
	full := x.states[8]
	come := []api.Add{}
	for m := range 4 {
		come = append(come, api.Add{Member: 20 + m, Pub: other})
	}
	full, _, e := group.Commit(x.s, full, group.Plan{Member: 8, Seed: x.rand(23), Adds: come})
	same(t, "Commit", e, api.OK)
	bad := api.Commit{Group: 4, Epoch: 5, Member: 5, External: true, Next: full.Tree, Face: other}
	x.follow(full, bad, "a ninth", api.ErrRule)
}

// TestP124Key: Entry, the path's seals, the Face.
func TestP124Key(t *testing.T) {
	x := newFour(t)
	st, good := x.before[8], x.commit
	other, secret := x.rand(40), x.next(x.rand(6), 2)
	for what, by := range map[string]func(c *api.Commit){
		"no seals":              func(c *api.Commit) { c.Seals = nil },
		"a seal for others":     func(c *api.Commit) { c.Seals = slices.DeleteFunc(c.Seals, func(l api.Seal) bool { return l.At == 3 }) },
		"sealed with another":   func(c *api.Commit) { each(c, x.seal(other, secret)) },
		"sealed is another":     func(c *api.Commit) { each(c, x.seal(st.Tree.Nodes[1].Pub, other)) },
		"no seal":               func(c *api.Commit) { each(c, secret) },
		"no term":               func(c *api.Commit) { each(c, 0) },
		"no terms, far":         func(c *api.Commit) { each(c, math.MaxInt) },
		"another key at 3":      func(c *api.Commit) { c.Next.Nodes[3].Pub = x.card(other) },
		"a path's key at 3":     func(c *api.Commit) { c.Next.Nodes[3].Pub = x.pub(other) },
		"no public key at 3":    func(c *api.Commit) { c.Next.Nodes[3].Pub = other },
		"data at 3":             func(c *api.Commit) { c.Next.Nodes[3].Pub = x.put(data(0)) },
		"another key at 5":      func(c *api.Commit) { c.Next.Nodes[5].Pub = x.pub(other) },
		"another key at 4":      func(c *api.Commit) { c.Next.Nodes[4].Pub = x.pub(other) },
		"a Face of the one old": func(c *api.Commit) { c.Face = x.face(st.Now) },
		"a Face that is none":   func(c *api.Commit) { c.Face = other },
		"Outer itself":          func(c *api.Commit) { c.Face = x.states[8].Now.Outer },
		"hash of Outer":         func(c *api.Commit) { c.Face = x.put(hash(x.states[8].Now.Outer)) },
		"pub of App":            func(c *api.Commit) { c.Face = x.card(x.states[8].Now.App) },
		"pub of Epoch":          func(c *api.Commit) { c.Face = x.card(x.states[8].Now.Epoch) },
		"data as Face":          func(c *api.Commit) { c.Face = x.put(data(3)) },
	} {
		x.follow(st, with(good, by), what, api.ErrKey)
	}
	// Of another group's, and of another epoch's, the context is not there yet: looking at the Face makes none.
	for _, g := range []int{-4, 1000, math.MaxInt} {
		in := st
		in.Group = g
		x.follow(in, with(good, func(c *api.Commit) { c.Group = g }), "another group's", api.ErrKey)
		in = st
		in.Epoch = max(g, 1<<40) - 1
		x.follow(in, with(good, func(c *api.Commit) { c.Epoch = in.Epoch + 1 }), "another epoch's", api.ErrKey)
	}
	in := st
	in.Now.Init = st.Now.Epoch
	x.follow(in, good, "another Init", api.ErrKey)
	in = st
	in.Keys = in.Keys[:1]
	x.follow(in, good, "without the key of 1", api.ErrKey)
	in.Keys = []api.Key{{Node: 1, Secret: other}, st.Keys[1]}
	x.follow(in, good, "another key of 1 first", api.ErrKey)
	in.Keys = nil
	x.follow(in, good, "without keys", api.ErrKey)
}

// each gives each seal another term.
func each(c *api.Commit, n int) {
	for i := range c.Seals {
		c.Seals[i].Term = n
	}
}

// TestP124Entry: what opens by Outer is Entry, and nothing else.
func TestP124Entry(t *testing.T) {
	x := newFour(t)
	entry := x.rand(22)
	_, good, e := group.External(x.s, group.FaceOf(x.commit), group.Plan{Member: 5, Seed: x.rand(21), Entry: entry})
	same(t, "External", e, api.OK)
	st := x.states[8]
	outer := st.Now.Outer
	for what, n := range map[string]int{
		"none": 0, "no term": -1, "far": math.MaxInt, "no seal": entry, "a pair": x.put(pair(outer, entry)), "pub of Outer": x.card(outer),
		"sealed with another": x.seal(x.rand(40), entry), "with another's pub": x.seal(x.card(x.rand(40)), entry),
		"with App":  x.seal(st.Now.App, entry),
		"with hash": x.seal(x.put(hash(outer)), entry), "with the pub's pub": x.seal(x.card(x.card(outer)), entry),
		"another Entry": x.seal(outer, x.rand(41)), "sealed twice": x.seal(outer, x.seal(outer, entry)),
	} {
		x.follow(st, with(good, func(c *api.Commit) { c.Entry = n }), what, api.ErrKey)
	}
	old := st
	old.Now.Outer = x.before[8].Now.Outer
	x.follow(old, good, "Outer of another epoch", api.ErrKey)
	// Init does not matter where one comes from outside, nor Entry where one does not.
	st.Now.Init = x.rand(43)
	same(t, "another Init", x.must(group.Follow(x.s, st, good)).Epoch, 4)
	same(t, "Entry of no external", x.must(group.Follow(x.s, x.before[8], with(x.commit, func(c *api.Commit) { c.Entry = x.rand(44) }))).Epoch, 3)
}

// TestP125Enter: the words of the chapter, term by term; each of three comes in at another joint.
func TestP125Enter(t *testing.T) {
	b := newBench(t)
	a, _, _ := group.Create(b.s, 4, group.Plan{Member: 8, Seed: b.rand(1)})
	seed := b.rand(3)
	come := []api.Add{{Member: 9, Pub: b.card(b.rand(11))}, {Member: 7, Pub: b.card(b.rand(12))}, {Member: 6, Pub: b.card(b.rand(13))}, {Member: 0, Pub: b.card(b.rand(14))}}
	st, c, e := group.Commit(b.s, a, group.Plan{Member: 8, Seed: seed, Adds: come})
	same(t, "Commit", e, api.OK)
	one := api.Key{Node: 1, Secret: b.key(b.next(seed, 1))}
	three := api.Key{Node: 3, Secret: b.key(b.next(seed, 2))}
	seven := api.Key{Node: 7, Secret: b.key(b.next(seed, 3))}
	for i, above := range [][]api.Key{{one, three, seven}, {three, seven}, {three, seven}, {seven}} {
		m, secret := come[i].Member, b.rand(11+i)
		got := b.must(group.Enter(b.s, c, m, secret))
		want := api.State{Group: 4, Epoch: 1, Member: m, Leaf: i + 1, Tree: st.Tree, Keys: append(above, api.Key{Node: 2*i + 2, Secret: secret}), Now: st.Now}
		same(t, fmt.Sprint(m), got, want)
	}
}

func TestP125Wrong(t *testing.T) {
	b, _, _, good := two(t)
	secret, other := b.rand(2), b.rand(40)
	for _, s := range lost() {
		closed(t, s, "no store", api.ErrNil, func() (api.State, api.Errno) { return group.Enter(s, good, 9, secret) })
		closed(t, s, "nothing", api.ErrNil, func() (api.State, api.Errno) { return group.Enter(s, api.Commit{}, 0, 0) })
	}
	for what, bad := range badCommits(good) {
		b.enter(bad, 9, secret, what, api.ErrArg)
		b.enter(bad, 5, secret, what+", and not in", api.ErrArg)
	}
	for _, n := range append([]int{0}, wild...) {
		b.enter(good, 9, n, fmt.Sprint("secret ", n), api.ErrArg)
		b.enter(good, 5, n, fmt.Sprint("not in, secret ", n), api.ErrArg)
		b.enter(good, n, secret, fmt.Sprint("member ", n), api.ErrGone)
	}
	join := func(member int) func(c *api.Commit) {
		return func(c *api.Commit) { c.Joins = append(c.Joins, api.Join{Member: member, Term: c.Joins[0].Term}) }
	}
	b.enter(with(good, func(c *api.Commit) { c.Joins = nil }), 9, secret, "no Join", api.ErrGone)
	b.enter(with(good, func(c *api.Commit) { c.Joins[0].Member = 7 }), 9, secret, "a Join of another", api.ErrGone)
	b.enter(with(good, join(7)), 7, secret, "a Join, and no leaf", api.ErrGone)
	b.enter(with(good, join(-1)), -1, secret, "a Join of nobody", api.ErrGone)
	b.enter(with(good, join(8)), 8, secret, "the maker", api.ErrGone)
	b.enter(with(good, func(c *api.Commit) { c.Member = 9 }), 9, secret, "as if the maker", api.ErrGone)
	b.enter(with(good, func(c *api.Commit) { c.Member = 7 }), 9, secret, "a maker without a leaf", api.ErrGone)
	b.enter(with(good, func(c *api.Commit) { c.Member = -1 }), 9, other, "a maker below 0", api.ErrGone)
	b.enter(with(good, func(c *api.Commit) { c.Next = api.Tree{} }), 9, secret, "no tree", api.ErrGone)
}

func TestP125Key(t *testing.T) {
	b, a, _, good := two(t)
	secret, other := b.rand(2), b.rand(40)
	card, one, joiner := b.card(secret), b.next(b.rand(3), 1), a.Now.Joiner
	b.enter(good, 9, other, "another secret", api.ErrKey)
	b.enter(good, 9, card, "the card itself", api.ErrKey)
	term := func(n int) func(c *api.Commit) { return func(c *api.Commit) { c.Joins[0].Term = n } }
	for what, by := range map[string]func(c *api.Commit){
		"no term":              term(0),
		"far":                  term(math.MaxInt),
		"no seal":              term(b.put(pair(joiner, one))),
		"no pair":              term(b.seal(card, joiner)),
		"a seal for a pair":    term(b.seal(card, b.seal(joiner, one))),
		"a seal of a seal":     term(b.seal(card, b.sealed(card, joiner, one))),
		"sealed with another":  term(b.sealed(b.card(other), joiner, one)),
		"another path's":       term(b.sealed(card, joiner, other)),
		"the next path's":      term(b.sealed(card, joiner, b.next(one, 1))),
		"the key":              term(b.sealed(card, joiner, b.key(one))),
		"another Joiner":       term(b.sealed(card, other, one)),
		"the other way round":  term(b.sealed(card, one, joiner)),
		"the first one counts": func(c *api.Commit) { c.Joins = []api.Join{{Member: 9, Term: b.seal(card, one)}, c.Joins[0]} },
		"no joint":             func(c *api.Commit) { c.Next.Nodes[1] = api.Node{} },
		"another joint":        func(c *api.Commit) { c.Next.Nodes[1].Pub = b.pub(other) },
		"the leaf's Pub":       func(c *api.Commit) { c.Next.Nodes[2].Pub = b.card(other) },
		"the leaf's secret":    func(c *api.Commit) { c.Next.Nodes[2].Pub = secret },
		"another Face":         func(c *api.Commit) { c.Face = b.card(other) },
		"Outer itself":         func(c *api.Commit) { c.Face = a.Now.Outer },
		"hash of Outer":        func(c *api.Commit) { c.Face = b.put(hash(a.Now.Outer)) },
		"another group":        func(c *api.Commit) { c.Group = 1000 },
		"another epoch":        func(c *api.Commit) { c.Epoch = 1000 },
		"another leaf":         func(c *api.Commit) { c.Next.Nodes[0].Epoch = 1000 },
	} {
		b.enter(with(good, by), 9, secret, what, api.ErrKey)
	}
	// What else is in a commit does not matter to one who comes in; nor is it asked whether the Join is sealed with the leaf's Pub.
	for what, by := range map[string]func(c *api.Commit){
		"seals": func(c *api.Commit) {
			c.Seals, c.Adds, c.By, c.KeyEpoch, c.Entry, c.Own, c.Card = nil, nil, 9, 9, 9, 9, 9
		},
		"a second Join": func(c *api.Commit) { c.Joins = append([]api.Join{{Member: 8}, c.Joins[0], {Member: 9}}, c.Joins...) },
		"by the secret": term(b.sealed(secret, joiner, one)),
	} {
		same(t, what, b.must(group.Enter(b.s, with(good, by), 9, secret)).Now, a.Now)
	}
}

// TestP125Leaf: of commits whose Face is right, and whose Join opens, the joint and the leaf's Pub must be right, too.
func TestP125Leaf(t *testing.T) {
	for what, by := range map[string]func(b bench, c *api.Commit){
		"no joint":           func(b bench, c *api.Commit) { c.Next.Nodes[1] = api.Node{} },
		"another leaf's Pub": func(b bench, c *api.Commit) { c.Next.Nodes[2].Pub = b.card(b.rand(40)) },
		"no public key":      func(b bench, c *api.Commit) { c.Next.Nodes[2].Pub = b.rand(3) },
		"another key at 1":   func(b bench, c *api.Commit) { c.Next.Nodes[1].Pub = b.pub(b.rand(40)) },
		"no path's key at 1": func(b bench, c *api.Commit) { c.Next.Nodes[1].Pub = b.card(b.rand(40)) },
	} {
		b := newBench(t)
		c, card, _ := byHand(b, func(c *api.Commit) { by(b, c) })
		b.enter(c, 9, card, what, api.ErrKey)
	}
	b := newBench(t)
	c, card, own := byHand(b, func(c *api.Commit) {})
	st := b.must(group.Enter(b.s, c, 9, card))
	same(t, "by hand", st.Now, b.must(group.Own(b.s, c, own)).Now)
	same(t, "by hand", st.Now.Joiner, b.rand(2))
}

// TestP126Own: the words of the chapter, term by term; of a commit of each kind.
func TestP126Own(t *testing.T) {
	x := newFour(t)
	own := x.rand(30)
	check := func(what string, st api.State, c api.Commit, e api.Errno) {
		t.Helper()
		same(t, what, e, api.OK)
		same(t, what, x.must(group.Own(x.s, c, own)), st)
	}
	st, c, e := group.Create(x.s, 9, group.Plan{Member: 3, KeyEpoch: 2, Seed: x.rand(21), Own: own})
	check("Create", st, c, e)
	st, c, e = group.Commit(x.s, x.states[6], group.Plan{Member: 6, Seed: x.rand(22), Own: own, Adds: []api.Add{{Member: 5, Pub: own}}, Removes: []int{9}})
	check("Commit", st, c, e)
	st, c, e = group.External(x.s, group.FaceOf(x.commit), group.Plan{Member: 5, Seed: x.rand(23), Own: own, Entry: x.rand(24)})
	check("External", st, c, e)
	// Sealed with a public key, it opens by the secret of that, and not by the public key.
	st, c, e = group.Commit(x.s, x.states[6], group.Plan{Member: 6, Seed: x.rand(22), Own: x.card(own)})
	check("a public key", st, c, e)
	x.own(c, x.card(own), "by the public key", api.ErrKey)
	x.own(c, x.rand(31), "by another one", api.ErrKey)
}

func TestP126Wrong(t *testing.T) {
	x := newFour(t)
	good, own, other := x.commit, x.rand(7), x.rand(40)
	seed, joiner := x.rand(6), x.states[7].Now.Joiner
	for _, s := range lost() {
		closed(t, s, "no store", api.ErrNil, func() (api.State, api.Errno) { return group.Own(s, good, own) })
		closed(t, s, "nothing", api.ErrNil, func() (api.State, api.Errno) { return group.Own(s, api.Commit{}, 0) })
	}
	for what, bad := range badCommits(good) {
		x.own(bad, own, what, api.ErrArg)
		bad.Own = 0
		x.own(bad, own, what+", and no Own", api.ErrArg)
	}
	for _, n := range append([]int{0}, wild...) {
		x.own(good, n, fmt.Sprint("own ", n), api.ErrArg)
		x.own(with(good, func(c *api.Commit) { c.Own = 0 }), n, fmt.Sprint("no Own, own ", n), api.ErrArg)
		x.own(with(good, func(c *api.Commit) { c.Member = n }), own, fmt.Sprint("member ", n), api.ErrGone)
		if n != 0 {
			x.own(with(good, func(c *api.Commit) { c.Own = n }), own, fmt.Sprint("Own ", n), api.ErrKey)
		}
	}
	x.own(with(good, func(c *api.Commit) { c.Own = 0 }), own, "no Own", api.ErrGone)
	x.own(with(good, func(c *api.Commit) { c.Own, c.Member = -1, 5 }), own, "no leaf", api.ErrGone)
	x.own(with(good, func(c *api.Commit) { c.Next = api.Tree{} }), own, "no tree", api.ErrGone)
	x.own(good, other, "another key", api.ErrKey)
	x.own(good, x.put(hash(own)), "its hash", api.ErrKey)
	with1 := func(n int) func(c *api.Commit) { return func(c *api.Commit) { c.Own = n } }
	for what, by := range map[string]func(c *api.Commit){
		"no seal":             with1(x.put(pair(joiner, seed))),
		"no pair":             with1(x.seal(own, joiner)),
		"a seal for a pair":   with1(x.seal(own, x.seal(joiner, seed))),
		"sealed with another": with1(x.sealed(other, joiner, seed)),
		"another seed":        with1(x.sealed(own, joiner, other)),
		"another Joiner":      with1(x.sealed(own, other, seed)),
		"the other way round": with1(x.sealed(own, seed, joiner)),
		"another member":      func(c *api.Commit) { c.Member = 8 },
		"another leaf":        func(c *api.Commit) { c.Next.Nodes[4].Pub = x.pub(other) },
		"another key above":   func(c *api.Commit) { c.Next.Nodes[5].Pub = x.pub(other) },
		"another key on top":  func(c *api.Commit) { c.Next.Nodes[3].Pub = x.card(other) },
		"a blank one":         func(c *api.Commit) { c.Next.Nodes[5] = api.Node{} },
		"another Face":        func(c *api.Commit) { c.Face = x.face(x.before[7].Now) },
		"another group":       func(c *api.Commit) { c.Group = 1000 },
		"another epoch":       func(c *api.Commit) { c.Epoch = 1000 },
		"another Epoch":       func(c *api.Commit) { c.Next.Nodes[6].Epoch = 1000 },
	} {
		x.own(with(good, by), own, what, api.ErrKey)
	}
}

// moved is a term of one store in another one.
func moved(from, to *term.Store, n int) int {
	var numbers []int
	at := func(part int) int {
		if part == 0 {
			return 0
		}
		return numbers[part-1]
	}
	for _, x := range from.Dag(n) {
		x.A, x.B = at(x.A), at(x.B)
		number, _ := to.Make(x)
		numbers = append(numbers, number)
	}
	return at(len(numbers))
}
