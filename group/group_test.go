package group_test

import (
	"fmt"
	"math"
	"slices"
	"testing"

	"phratry/api"
	"phratry/group"
	"phratry/term"
	"phratry/tree"
)

// wild are numbers at the edges of int, none of them a term of a small store.
var wild = []int{math.MinInt, math.MinInt + 1, -1 << 62, -1 << 32, -8, -2, -1, 1 << 20, 1<<20 + 1, 1 << 32, 1 << 62, math.MaxInt - 1, math.MaxInt}

func random(n int64) api.Term            { return api.Term{Kind: api.TmRand, N: n} }
func data(n int64) api.Term              { return api.Term{Kind: api.TmData, N: n} }
func pair(a, b int) api.Term             { return api.Term{Kind: api.TmPair, A: a, B: b} }
func kdf(label int64, a, b int) api.Term { return api.Term{Kind: api.TmKdf, N: label, A: a, B: b} }
func public(a int) api.Term              { return api.Term{Kind: api.TmPub, A: a} }
func sealed(a, b int) api.Term           { return api.Term{Kind: api.TmSeal, A: a, B: b} }
func hash(a int) api.Term                { return api.Term{Kind: api.TmHash, A: a} }

// bench is a store in which a test makes terms that must go.
type bench struct {
	t *testing.T
	s *term.Store
}

func newBench(t *testing.T) bench { return bench{t, term.New()} }

func (b bench) put(x api.Term) int {
	b.t.Helper()
	n, e := b.s.Make(x)
	if e != api.OK {
		b.t.Fatal(x, e)
	}
	return n
}

func (b bench) rand(n int) int { return b.put(random(int64(n))) }

// next is the n-th secret behind one of a path; key and pub are of a node with it.
func (b bench) next(secret, n int) int {
	for range n {
		secret = b.put(kdf(api.LbPath, secret, 0))
	}
	return secret
}
func (b bench) key(secret int) int        { return b.put(kdf(api.LbNode, secret, 0)) }
func (b bench) pub(secret int) int        { return b.put(public(b.key(secret))) }
func (b bench) card(secret int) int       { return b.put(public(secret)) }
func (b bench) sealed(with, x, y int) int { return b.put(sealed(with, b.put(pair(x, y)))) }
func (b bench) seal(with, inside int) int { return b.put(sealed(with, inside)) }
func (b bench) face(now api.Secrets) int  { return b.put(public(now.Outer)) }
func (b bench) joiner(init, commit int) int {
	return b.put(kdf(api.LbJoiner, b.put(pair(init, commit)), 0))
}
func (b bench) leaf(secret, m, e int) api.Node {
	return api.Node{Pub: b.pub(secret), Member: m, Epoch: e}
}

// context is that of a tree, of chapter 10's words.
func (b bench) context(group, epoch int, t api.Tree) int {
	b.t.Helper()
	var l []int
	add := func(n ...int) {
		for _, x := range n {
			l = append(l, b.put(data(int64(x))))
		}
	}
	add(group, epoch)
	for i, n := range t.Nodes {
		if n.Pub == 0 {
			continue
		}
		add(i)
		l = append(l, n.Pub)
		if i%2 == 0 {
			add(n.Member, n.Epoch)
		}
		add(n.Unmerged...)
	}
	whole, e := b.s.List(l...)
	if e != api.OK {
		b.t.Fatal(e)
	}
	return b.put(hash(whole))
}

// secrets are those of an epoch, of chapter 10's words.
func (b bench) secrets(joiner, context int) api.Secrets {
	b.t.Helper()
	epoch := b.put(kdf(api.LbEpoch, joiner, context))
	of := func(label int64) int { return b.put(kdf(label, epoch, 0)) }
	return api.Secrets{Joiner: joiner, Epoch: epoch, Init: of(api.LbInit), Export: of(api.LbExport), Outer: of(api.LbOuter), App: of(api.LbApp)}
}

func nodes(l ...api.Node) api.Tree { return api.Tree{Nodes: l} }

// tell writes something out; lists that are nil and empty look the same.
func tell(x any) string { return fmt.Sprintf("%+v", x) }

func same(t *testing.T, what string, got, want any) {
	t.Helper()
	if tell(got) != tell(want) {
		t.Fatalf("%s:\n%s, not\n%s", what, tell(got), tell(want))
	}
}

// lost are stores that are not there.
func lost() []*term.Store { return []*term.Store{nil, {}} }

// refused: a call that makes a commit answers an error, nothing beside it, and leaves the store as it was.
func refused(t *testing.T, s *term.Store, what string, want api.Errno, call func() (api.State, api.Commit, api.Errno)) {
	t.Helper()
	many := s.Len()
	st, c, e := call()
	if e != want || tell(st) != tell(api.State{}) || tell(c) != tell(api.Commit{}) || s.Len() != many {
		t.Errorf("%s: %v, not %v; %s %s; %d terms more", what, e, want, tell(st), tell(c), s.Len()-many)
	}
}

// closed: a call that takes a commit answers an error, nothing beside it, and leaves the store as it was.
func closed(t *testing.T, s *term.Store, what string, want api.Errno, call func() (api.State, api.Errno)) {
	t.Helper()
	refused(t, s, what, want, alone(call))
}

// badPlans are plans that may not be, each by one thing of a good one alone. (Entry is 0 in the good one.)
func badPlans(good group.Plan) map[string]group.Plan {
	l := map[string]group.Plan{}
	change := func(what string, by func(p *group.Plan)) {
		p := good
		p.Adds, p.Removes = slices.Clone(p.Adds), slices.Clone(p.Removes)
		by(&p)
		l[what] = p
	}
	for _, n := range append([]int{0}, wild...) {
		change(fmt.Sprint("Seed ", n), func(p *group.Plan) { p.Seed = n })
		if n != 0 {
			change(fmt.Sprint("Own ", n), func(p *group.Plan) { p.Own = n })
		}
		if n < 0 {
			change(fmt.Sprint("KeyEpoch ", n), func(p *group.Plan) { p.KeyEpoch = n })
		}
		change(fmt.Sprint("Pub of an Add ", n), func(p *group.Plan) { p.Adds = append(p.Adds, api.Add{Member: 50, Pub: n}) })
		if n < 0 {
			change(fmt.Sprint("Epoch of an Add ", n), func(p *group.Plan) {
				p.Adds = append(p.Adds, api.Add{Member: 50, Pub: p.Seed, Epoch: n})
			})
		}
	}
	change("Adds", func(p *group.Plan) { p.Adds = tooMany(p.Seed) })
	change("Removes", func(p *group.Plan) { p.Removes = []int{1, 2, 3, 4, 5, 6, 7, 8, 9} })
	return l
}

// tooMany are Adds that may be but for their number.
func tooMany(pub int) (l []api.Add) {
	for i := range api.MaxLeaves + 1 {
		l = append(l, api.Add{Member: 60 + i, Pub: pub})
	}
	return l
}

func TestP121Create(t *testing.T) {
	for _, c := range []struct{ group, by, member, epoch int }{
		{4, 8, 8, 0}, {-1, 7, 7, 0}, {0, 0, 0, 0}, {63, 77, 9, 3}, {math.MinInt, math.MinInt, math.MaxInt, math.MaxInt}, {math.MaxInt, -5, 1, 1},
	} {
		for own := range 2 {
			b := newBench(t)
			seed := b.rand(1)
			own *= b.rand(2)
			p := group.Plan{By: c.by, Member: c.member, KeyEpoch: c.epoch, Seed: seed, Own: own}
			st, co, e := group.Create(b.s, c.group, p)
			alone := nodes(b.leaf(seed, c.member, c.epoch))
			now := b.secrets(b.joiner(b.put(data(0)), b.next(seed, 1)), b.context(c.group, 0, alone))
			want := api.State{Group: c.group, Member: c.member, Tree: alone, Keys: []api.Key{{Secret: b.key(seed)}}, Now: now}
			wantC := api.Commit{Group: c.group, By: c.by, Member: c.member, KeyEpoch: c.epoch, Next: alone, Face: b.face(now)}
			if own != 0 {
				wantC.Own = b.sealed(own, now.Joiner, seed)
			}
			same(t, "Create", e, api.OK)
			same(t, "state", st, want)
			same(t, "commit", co, wantC)
		}
	}
}

func TestP121Wrong(t *testing.T) {
	b := newBench(t)
	good := group.Plan{By: 8, Member: 8, Seed: b.rand(1), Own: b.rand(2)}
	for _, s := range lost() {
		refused(t, s, "no store", api.ErrNil, func() (api.State, api.Commit, api.Errno) { return group.Create(s, 4, good) })
		refused(t, s, "no store, no plan", api.ErrNil, func() (api.State, api.Commit, api.Errno) { return group.Create(s, 4, group.Plan{}) })
	}
	bad := badPlans(good)
	change := func(what string, by func(p *group.Plan)) {
		p := good
		by(&p)
		bad[what] = p
	}
	change("Entry", func(p *group.Plan) { p.Entry = p.Seed })
	change("Entry that is no term", func(p *group.Plan) { p.Entry = -1 })
	change("an Add", func(p *group.Plan) { p.Adds = []api.Add{{Member: 9, Pub: p.Seed}} })
	change("a Remove", func(p *group.Plan) { p.Removes = []int{9} })
	change("a Remove of itself", func(p *group.Plan) { p.Removes = []int{8} })
	change("Member", func(p *group.Plan) { p.Member = -1 })
	change("Member far below", func(p *group.Plan) { p.Member = math.MinInt })
	for what, p := range bad {
		refused(t, b.s, what, api.ErrArg, func() (api.State, api.Commit, api.Errno) { return group.Create(b.s, 4, p) })
	}
	if _, _, e := group.Create(b.s, 4, good); e != api.OK {
		t.Error(e)
	}
}

// two is the group 4 of the members 8, which has made it, and 9, whom it has let in; 8 is at the leaf 0.
func two(t *testing.T) (b bench, a, o api.State, c api.Commit) {
	t.Helper()
	b = newBench(t)
	a, _, e := group.Create(b.s, 4, group.Plan{By: 8, Member: 8, Seed: b.rand(1)})
	same(t, "Create", e, api.OK)
	a, c, e = group.Commit(b.s, a, group.Plan{By: 8, Member: 8, Seed: b.rand(3), Adds: []api.Add{{Member: 9, Pub: b.card(b.rand(2))}}})
	same(t, "Commit", e, api.OK)
	o, e = group.Enter(b.s, c, 9, b.rand(2))
	same(t, "Enter", e, api.OK)
	return b, a, o, c
}

// TestP122ComeIn: one who is alone lets another one in; the words of the chapter, term by term.
func TestP122ComeIn(t *testing.T) {
	b := newBench(t)
	a, _, _ := group.Create(b.s, 4, group.Plan{By: 8, Member: 8, Seed: b.rand(1)})
	a.Sent = 7
	seed, card, own := b.rand(3), b.card(b.rand(2)), b.rand(5)
	p := group.Plan{By: 70, Member: 8, KeyEpoch: 6, Seed: seed, Own: own, Adds: []api.Add{{Member: 9, Epoch: 2, Pub: card}}}
	st, c, e := group.Commit(b.s, a, p)
	next := nodes(b.leaf(seed, 8, 6), api.Node{Pub: b.pub(b.next(seed, 1))}, api.Node{Pub: card, Member: 9, Epoch: 2})
	now := b.secrets(b.joiner(a.Now.Init, b.next(seed, 2)), b.context(4, 1, next))
	want := api.State{Group: 4, Epoch: 1, Member: 8, Tree: next, Now: now,
		Keys: []api.Key{{Node: 0, Secret: b.key(seed)}, {Node: 1, Secret: b.key(b.next(seed, 1))}}}
	wantC := api.Commit{Group: 4, Epoch: 1, By: 70, Member: 8, KeyEpoch: 6, Adds: p.Adds, Next: next, Face: b.face(now),
		Joins: []api.Join{{Member: 9, Term: b.sealed(card, now.Joiner, b.next(seed, 1))}}, Own: b.sealed(own, now.Joiner, seed)}
	same(t, "Commit", e, api.OK)
	same(t, "state", st, want)
	same(t, "commit", c, wantC)
}

// TestP122Several: two go, three come; the new ones are told the secrets of other joints, and the path is sealed for none of them.
func TestP122Several(t *testing.T) {
	b := newBench(t)
	a, _, _ := group.Create(b.s, -3, group.Plan{Member: 5, Seed: b.rand(1)})
	cards := []api.Add{{Member: 6, Pub: b.card(b.rand(11))}, {Member: 7, Pub: b.card(b.rand(12))}, {Member: 8, Pub: b.card(b.rand(13))}}
	a, _, e := group.Commit(b.s, a, group.Plan{Member: 5, Seed: b.rand(2), Adds: cards})
	same(t, "Commit", e, api.OK)
	seed := b.rand(3)
	come := []api.Add{{Member: 4, Epoch: 1, Pub: b.card(b.rand(14))}, {Member: 3, Pub: b.card(b.rand(15))}, {Member: 2, Pub: b.rand(16)}}
	st, c, e := group.Commit(b.s, a, group.Plan{Member: 5, Seed: seed, Adds: come, Removes: []int{8, 6}})
	same(t, "Commit", e, api.OK)
	one, three, seven := b.next(seed, 1), b.next(seed, 2), b.next(seed, 3)
	next := nodes(b.leaf(seed, 5, 0), api.Node{Pub: b.pub(one)}, api.Node{Pub: come[0].Pub, Member: 4, Epoch: 1}, api.Node{Pub: b.pub(three)},
		api.Node{Pub: cards[1].Pub, Member: 7}, api.Node{}, api.Node{Pub: come[1].Pub, Member: 3}, api.Node{Pub: b.pub(seven)},
		api.Node{Pub: come[2].Pub, Member: 2}, api.Node{}, api.Node{}, api.Node{}, api.Node{}, api.Node{}, api.Node{})
	same(t, "tree", st.Tree, next)
	same(t, "Next", c.Next, next)
	now := b.secrets(b.joiner(a.Now.Init, b.next(seed, 4)), b.context(-3, 2, next))
	same(t, "secrets", st.Now, now)
	same(t, "Adds", c.Adds, come)
	same(t, "Removes", c.Removes, []int{8, 6})
	same(t, "Seals", c.Seals, []api.Seal{{At: 3, To: 4, Term: b.seal(cards[1].Pub, three)}})
	same(t, "Joins", c.Joins, []api.Join{{Member: 4, Term: b.sealed(come[0].Pub, now.Joiner, one)},
		{Member: 3, Term: b.sealed(come[1].Pub, now.Joiner, three)}, {Member: 2, Term: b.sealed(come[2].Pub, now.Joiner, seven)}})
	same(t, "Keys", st.Keys, []api.Key{{Node: 0, Secret: b.key(seed)}, {Node: 1, Secret: b.key(one)}, {Node: 3, Secret: b.key(three)}, {Node: 7, Secret: b.key(seven)}})
	same(t, "the rest", []int{st.Group, st.Epoch, st.Member, st.Leaf, st.Sent, c.Own, c.Entry, c.Card, c.Face}, []int{-3, 2, 5, 0, 0, 0, 0, 0, b.face(now)})
}

// TestP122Alone: whoever lets all others go is alone, and may go on.
func TestP122Alone(t *testing.T) {
	b, _, o, _ := two(t)
	st, c, e := group.Commit(b.s, o, group.Plan{By: 9, Member: 9, Seed: b.rand(4), Removes: []int{8}})
	same(t, "Commit", e, api.OK)
	if c.Seals != nil || c.Joins != nil || st.Leaf != 1 {
		t.Error(tell(st), tell(c))
	}
	// The leaf 1 stays where it is: the right half has a member.
	same(t, "tree", st.Tree, nodes(api.Node{}, api.Node{}, b.leaf(b.rand(4), 9, 0)))
	same(t, "secrets", st.Now, b.secrets(b.joiner(o.Now.Init, b.next(b.rand(4), 1)), b.context(4, 2, st.Tree)))
}

// badStates are states that may not be, each by one thing of a good one alone.
func badStates(good api.State, two api.Node) map[string]api.State {
	l := map[string]api.State{}
	change := func(what string, by func(st *api.State)) {
		st := good
		st.Tree.Nodes, st.Keys = slices.Clone(st.Tree.Nodes), slices.Clone(st.Keys)
		by(&st)
		l[what] = st
	}
	for _, n := range append([]int{0}, wild...) {
		change(fmt.Sprint("Init ", n), func(st *api.State) { st.Now.Init = n })
		change(fmt.Sprint("Outer ", n), func(st *api.State) { st.Now.Outer = n })
		change(fmt.Sprint("a key ", n), func(st *api.State) { st.Keys = append(st.Keys, api.Key{Node: 1, Secret: n}) })
		if n != 0 {
			change(fmt.Sprint("a Pub ", n), func(st *api.State) { st.Tree.Nodes[len(st.Tree.Nodes)-1].Pub = n })
		}
		if n != good.Leaf {
			change(fmt.Sprint("Leaf ", n), func(st *api.State) { st.Leaf = n })
		}
		if n < 0 {
			change(fmt.Sprint("Epoch ", n), func(st *api.State) { st.Epoch = n })
		}
	}
	change("no tree", func(st *api.State) { st.Tree = api.Tree{} })
	change("a tree that may not be", func(st *api.State) { st.Tree.Nodes = append(st.Tree.Nodes, two) })
	change("not in it", func(st *api.State) { st.Member, st.Leaf = 50, -1 })
	change("another one's Leaf", func(st *api.State) { st.Leaf = 1 - st.Leaf })
	return l
}

func TestP122Wrong(t *testing.T) {
	b, a, _, c := two(t)
	good := group.Plan{By: 8, Member: 8, Seed: b.rand(4), Own: b.rand(5)}
	commit := func(st api.State, p group.Plan) func() (api.State, api.Commit, api.Errno) {
		return func() (api.State, api.Commit, api.Errno) { return group.Commit(b.s, st, p) }
	}
	for _, s := range lost() {
		refused(t, s, "no store", api.ErrNil, func() (api.State, api.Commit, api.Errno) { return group.Commit(s, a, good) })
		refused(t, s, "no store, no state", api.ErrNil, func() (api.State, api.Commit, api.Errno) { return group.Commit(s, api.State{}, group.Plan{}) })
	}
	for what, p := range badPlans(good) {
		refused(t, b.s, what, api.ErrArg, commit(a, p))
		p.Removes = append(p.Removes, 8)
		refused(t, b.s, what+", and itself goes", api.ErrArg, commit(a, p))
	}
	for what, st := range badStates(a, c.Next.Nodes[0]) {
		refused(t, b.s, what, api.ErrArg, commit(st, good))
	}
	plan := func(by func(p *group.Plan)) group.Plan {
		p := good
		by(&p)
		return p
	}
	refused(t, b.s, "Entry", api.ErrArg, commit(a, plan(func(p *group.Plan) { p.Entry = p.Seed })))
	refused(t, b.s, "another Member", api.ErrArg, commit(a, plan(func(p *group.Plan) { p.Member = 9 })))
	refused(t, b.s, "Member below 0", api.ErrArg, commit(a, plan(func(p *group.Plan) { p.Member = -1 })))
	if _, _, e := group.Commit(b.s, a, good); e != api.OK {
		t.Error(e)
	}
}

// TestP122Refused: what tree refuses, in the order of Removes, then of Adds; ahead of that, who takes itself out.
func TestP122Refused(t *testing.T) {
	b, a, _, _ := two(t)
	pub := b.card(b.rand(20))
	add := func(m ...int) (l []api.Add) {
		for _, x := range m {
			l = append(l, api.Add{Member: x, Pub: pub})
		}
		return l
	}
	for _, c := range []struct {
		adds    []api.Add
		removes []int
		want    api.Errno
	}{
		{nil, []int{8}, api.ErrRule},
		{nil, []int{9, 8}, api.ErrRule},
		{nil, []int{7, 8}, api.ErrRule},
		{add(-1), []int{7, 7, 8}, api.ErrRule},
		{add(8), []int{8}, api.ErrRule},
		{nil, []int{7}, api.ErrGone},
		{nil, []int{-1}, api.ErrGone},
		{nil, []int{9, 9}, api.ErrGone},
		{add(-1), []int{9, 7}, api.ErrGone},
		{add(8), []int{7}, api.ErrGone},
		{add(8), nil, api.ErrTwice},
		{add(9), nil, api.ErrTwice},
		{add(1, 1), nil, api.ErrTwice},
		{add(1, 9, -1), nil, api.ErrTwice},
		{add(-1, 9), nil, api.ErrArg},
		{add(math.MinInt), []int{9}, api.ErrArg},
		{add(1, 2, 3, 4, 5, 6, 7), nil, api.ErrLimit},
		{add(1, 2, 3, 4, 5, 6, 7, 9), nil, api.ErrLimit},
		{add(1, 2, 3, 4, 5, 6, 9, 7), nil, api.ErrTwice},
		{add(1, 2, 3, 4, 5, 6, 7, 9), []int{9}, api.ErrLimit},
	} {
		p := group.Plan{By: 8, Member: 8, Seed: b.rand(4), Adds: c.adds, Removes: c.removes}
		refused(t, b.s, tell(c), c.want, func() (api.State, api.Commit, api.Errno) { return group.Commit(b.s, a, p) })
	}
	for _, c := range []struct {
		adds    []api.Add
		removes []int
		members []int
	}{
		{add(1, 2, 3, 4, 5, 6), nil, []int{8, 9, 1, 2, 3, 4, 5, 6}},
		{add(1, 2, 3, 4, 5, 6, 9), []int{9}, []int{8, 1, 2, 3, 4, 5, 6, 9}},
		{add(9), []int{9}, []int{8, 9}},
		{nil, []int{9}, []int{8}},
		{add(0, math.MaxInt), nil, []int{8, 9, 0, math.MaxInt}},
		{nil, nil, []int{8, 9}},
	} {
		st, co, e := group.Commit(b.s, a, group.Plan{By: 8, Member: 8, Seed: b.rand(4), Adds: c.adds, Removes: c.removes})
		if e != api.OK || !slices.Equal(tree.Members(st.Tree), c.members) || len(co.Joins) != len(c.adds) {
			t.Error(tell(c), e, tell(st))
		}
	}
}

// TestP123New: one who never was in comes in by a face.
func TestP123New(t *testing.T) {
	b, _, _, c := two(t)
	f := group.FaceOf(c)
	seed, entry, own := b.rand(5), b.rand(6), b.rand(7)
	st, co, e := group.External(b.s, f, group.Plan{By: 60, Member: 7, KeyEpoch: 4, Seed: seed, Entry: entry, Own: own})
	one := b.next(seed, 1)
	next := nodes(f.Tree.Nodes[0], f.Tree.Nodes[1], f.Tree.Nodes[2], api.Node{Pub: b.pub(one)}, b.leaf(seed, 7, 4), api.Node{}, api.Node{})
	now := b.secrets(b.joiner(entry, b.next(seed, 2)), b.context(4, 2, next))
	same(t, "External", e, api.OK)
	same(t, "state", st, api.State{Group: 4, Epoch: 2, Member: 7, Leaf: 2, Tree: next, Now: now,
		Keys: []api.Key{{Node: 3, Secret: b.key(one)}, {Node: 4, Secret: b.key(seed)}}})
	same(t, "commit", co, api.Commit{Group: 4, Epoch: 2, By: 60, Member: 7, KeyEpoch: 4, External: true, Next: next, Face: b.face(now),
		Seals: []api.Seal{{At: 3, To: 1, Term: b.seal(f.Tree.Nodes[1].Pub, one)}},
		Own:   b.sealed(own, now.Joiner, seed), Entry: b.seal(f.Pub, entry)})
}

// TestP123Back: one who was in has a new leaf, and the old one is gone.
func TestP123Back(t *testing.T) {
	b, _, _, c := two(t)
	f := group.FaceOf(c)
	seed, entry := b.rand(5), b.rand(6)
	st, co, e := group.External(b.s, f, group.Plan{By: 9, Member: 9, Seed: seed, Entry: entry})
	next := nodes(f.Tree.Nodes[0], api.Node{Pub: b.pub(b.next(seed, 1))}, b.leaf(seed, 9, 0))
	now := b.secrets(b.joiner(entry, b.next(seed, 2)), b.context(4, 2, next))
	same(t, "External", e, api.OK)
	same(t, "state", st, api.State{Group: 4, Epoch: 2, Member: 9, Leaf: 1, Tree: next, Now: now,
		Keys: []api.Key{{Node: 1, Secret: b.key(b.next(seed, 1))}, {Node: 2, Secret: b.key(seed)}}})
	same(t, "commit", co, api.Commit{Group: 4, Epoch: 2, By: 9, Member: 9, External: true, Removes: []int{9}, Next: next, Face: b.face(now),
		Seals: []api.Seal{{At: 1, To: 0, Term: b.seal(f.Tree.Nodes[0].Pub, b.next(seed, 1))}}, Entry: b.seal(f.Pub, entry)})
}

// TestP123Only: of the only member nothing is left, and the tree is a new one; so it is of a tree without nodes.
func TestP123Only(t *testing.T) {
	b := newBench(t)
	seed, entry, pub := b.rand(5), b.rand(6), b.card(b.rand(7))
	wide := nodes(api.Node{}, api.Node{}, api.Node{Pub: pub, Member: 8})
	for _, c := range []struct {
		t       api.Tree
		removes []int
	}{{nodes(api.Node{Pub: pub, Member: 8}), []int{8}}, {wide, []int{8}}, {api.Tree{}, nil}} {
		f := api.Face{Group: -4, Epoch: 9, Tree: c.t, Pub: pub}
		st, co, e := group.External(b.s, f, group.Plan{By: 8, Member: 8, Seed: seed, Entry: entry})
		next := nodes(b.leaf(seed, 8, 0))
		now := b.secrets(b.joiner(entry, b.next(seed, 1)), b.context(-4, 10, next))
		same(t, "External", e, api.OK)
		same(t, "state", st, api.State{Group: -4, Epoch: 10, Member: 8, Tree: next, Now: now, Keys: []api.Key{{Secret: b.key(seed)}}})
		same(t, "commit", co, api.Commit{Group: -4, Epoch: 10, By: 8, Member: 8, External: true, Removes: c.removes, Next: next,
			Face: b.face(now), Entry: b.seal(pub, entry)})
	}
}

func TestP123Wrong(t *testing.T) {
	b, _, _, c := two(t)
	f := group.FaceOf(c)
	good := group.Plan{By: 7, Member: 7, Seed: b.rand(5), Entry: b.rand(6), Own: b.rand(7)}
	external := func(f api.Face, p group.Plan) func() (api.State, api.Commit, api.Errno) {
		return func() (api.State, api.Commit, api.Errno) { return group.External(b.s, f, p) }
	}
	for _, s := range lost() {
		refused(t, s, "no store", api.ErrNil, func() (api.State, api.Commit, api.Errno) { return group.External(s, f, good) })
		refused(t, s, "no store, no face", api.ErrNil, func() (api.State, api.Commit, api.Errno) { return group.External(s, api.Face{}, group.Plan{}) })
	}
	bad := badPlans(good)
	for _, n := range append([]int{0}, wild...) {
		p := good
		p.Entry = n
		bad[fmt.Sprint("Entry ", n)] = p
	}
	come, leave, below := good, good, good
	come.Adds, leave.Removes, below.Member = []api.Add{{Member: 20, Pub: b.rand(1)}}, []int{9}, -1
	bad["an Add"], bad["a Remove"], bad["Member below 0"] = come, leave, below
	for what, p := range bad {
		refused(t, b.s, what, api.ErrArg, external(f, p))
	}
	for _, n := range append([]int{0}, wild...) {
		x := group.FaceOf(c)
		x.Pub = n
		refused(t, b.s, fmt.Sprint("Pub ", n), api.ErrArg, external(x, good))
		x = group.FaceOf(c)
		x.Tree.Nodes[1].Pub = n
		if n != 0 {
			refused(t, b.s, fmt.Sprint("a node's Pub ", n), api.ErrArg, external(x, good))
		}
		x = group.FaceOf(c)
		x.Epoch = n
		if n < 0 {
			refused(t, b.s, fmt.Sprint("Epoch ", n), api.ErrArg, external(x, good))
		}
	}
	x := group.FaceOf(c)
	x.Tree.Nodes = x.Tree.Nodes[:2]
	refused(t, b.s, "two nodes", api.ErrArg, external(x, good))
}

// TestP123Full: there is room for eight; one of them may come back, a ninth may not come.
func TestP123Full(t *testing.T) {
	b, a, _, _ := two(t)
	var l []api.Add
	for m := range 6 {
		l = append(l, api.Add{Member: m, Pub: b.card(b.rand(30 + m))})
	}
	_, c, e := group.Commit(b.s, a, group.Plan{Member: 8, Seed: b.rand(4), Adds: l})
	same(t, "Commit", e, api.OK)
	f := group.FaceOf(c)
	p := group.Plan{Member: 7, Seed: b.rand(5), Entry: b.rand(6)}
	refused(t, b.s, "a ninth", api.ErrLimit, func() (api.State, api.Commit, api.Errno) { return group.External(b.s, f, p) })
	far := group.FaceOf(c)
	far.Tree.Nodes[14].Pub = 1 << 20
	refused(t, b.s, "a ninth, of a tree that is not held", api.ErrArg, func() (api.State, api.Commit, api.Errno) { return group.External(b.s, far, p) })
	for m := range 6 {
		p.Member = m
		st, c, e := group.External(b.s, f, p)
		if e != api.OK || st.Leaf != m+2 || !slices.Equal(c.Removes, []int{m}) || len(tree.Members(c.Next)) != 8 {
			t.Error(m, e, tell(st))
		}
	}
}

func TestP127FaceOf(t *testing.T) {
	_, _, _, c := two(t)
	same(t, "FaceOf", group.FaceOf(c), api.Face{Group: 4, Epoch: 1, Tree: c.Next, Pub: c.Face})
	same(t, "of nothing", group.FaceOf(api.Commit{}), api.Face{})
	// Any commit has one, whether it may be or not.
	odd := api.Commit{Group: math.MinInt, Epoch: -3, By: 5, Member: 6, Face: -9, Card: 7, Entry: 8, Own: 9, External: true,
		Next: nodes(api.Node{Pub: -1, Member: -2, Epoch: -3, Unmerged: []int{7, -7, 7}}, api.Node{})}
	same(t, "of an odd one", group.FaceOf(odd), api.Face{Group: math.MinInt, Epoch: -3, Tree: odd.Next, Pub: -9})
}
