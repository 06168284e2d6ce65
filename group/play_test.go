package group_test

import (
	"fmt"
	"slices"
	"testing"

	"phratry/api"
	"phratry/deduce"
	"phratry/group"
	"phratry/path"
	"phratry/sched"
	"phratry/term"
	"phratry/tree"
)

// dice tells the same row of numbers at every run.
type dice uint64

func (x *dice) roll(n int) int {
	*x = *x*6364136223846793005 + 1442695040888963407
	return int(uint64(*x) >> 33 % uint64(n))
}

func (x *dice) one(l []int) int { return l[x.roll(len(l))] }

// device has one member's states of a group, one of each epoch that it has come to, and all that it drew.
type device struct {
	member int
	states []api.State
	drawn  []int
}

func (d *device) now() api.State { return d.states[len(d.states)-1] }

func (d *device) come(st api.State) { d.states = append(d.states, st) }

// band is a group as its devices have it: each member has two of them, of which the second one has all by Own.
type band struct {
	bench
	x       *dice
	drew    int
	devices []*device // those that are in
	gone    []*device
	commits []api.Commit
	secrets []api.Secrets // of each epoch
}

func (g *band) draw(d *device) int {
	g.drew++
	n := g.rand(1000 + g.drew)
	d.drawn = append(d.drawn, n)
	return n
}

// newBand is a group of the member 1, with its own key.
func newBand(t *testing.T, x *dice) *band {
	t.Helper()
	g := &band{bench: newBench(t), x: x}
	a, b := &device{member: 1}, &device{member: 1}
	own := g.draw(a)
	st, c, e := group.Create(g.s, 5, group.Plan{By: 1, Member: 1, Seed: g.draw(a), Own: own})
	same(t, "Create", e, api.OK)
	a.come(st)
	b.come(g.must(group.Own(g.s, c, own)))
	g.devices, g.commits, g.secrets = []*device{a, b}, []api.Commit{c}, []api.Secrets{st.Now}
	return g
}

// plan lets members come and go: the plan, and the devices that come with the secrets of their cards.
func (g *band) plan(d *device) (p group.Plan, fresh []*device) {
	p = group.Plan{By: d.member, Member: d.member, KeyEpoch: g.x.roll(3), Seed: g.draw(d), Own: g.draw(d)}
	for _, m := range tree.Members(d.now().Tree) {
		if m != d.member && g.x.roll(5) == 0 {
			p.Removes = append(p.Removes, m)
		}
	}
	room := api.MaxLeaves - len(tree.Members(d.now().Tree)) + len(p.Removes)
	for range min(g.x.roll(4), room) {
		n := &device{member: 100 + g.drew}
		p.Adds = append(p.Adds, api.Add{Member: n.member, Epoch: g.x.roll(3), Pub: g.card(g.draw(n))})
		fresh = append(fresh, n)
	}
	return p, fresh
}

// commit lets a device make a commit, and all others take it.
func (g *band) commit() {
	g.t.Helper()
	d := g.devices[g.x.roll(len(g.devices))]
	p, fresh := g.plan(d)
	st, c, e := group.Commit(g.s, d.now(), p)
	want, wantC := g.plainCommit(d.now(), p)
	same(g.t, "Commit", e, api.OK)
	same(g.t, "state", st, want)
	same(g.t, "commit", c, wantC)
	g.taken(d, st, c, p.Own)
	for _, n := range fresh {
		st := g.must(group.Enter(g.s, c, n.member, n.drawn[0]))
		same(g.t, "secrets", st.Now, g.secrets[len(g.secrets)-1])
		n.come(st)
		g.devices = append(g.devices, n)
	}
}

// planOutside is for one who comes in from outside; or comes back, then the device's member is another one.
func (g *band) planOutside(d *device) group.Plan {
	if in := tree.Members(g.last().Next); len(in) == api.MaxLeaves || g.x.roll(3) == 0 {
		d.member = g.x.one(in)
	}
	return group.Plan{By: d.member, Member: d.member, KeyEpoch: g.x.roll(3), Seed: g.draw(d), Own: g.draw(d), Entry: g.draw(d)}
}

// outside lets one come in, or back, by an external commit.
func (g *band) outside() {
	g.t.Helper()
	d := &device{member: 100 + g.drew}
	p := g.planOutside(d)
	// Whoever comes back has lost what it had: its devices go, as if they had been taken out.
	g.leave(func(x *device) bool { return x.member == d.member })
	f := group.FaceOf(g.last())
	st, c, e := group.External(g.s, f, p)
	want, wantC := g.plainExternal(f, p)
	same(g.t, "External", e, api.OK)
	same(g.t, "state", st, want)
	same(g.t, "commit", c, wantC)
	g.taken(nil, st, c, p.Own)
	d.come(st)
	g.devices = append(g.devices, d)
}

// taken lets all devices that are in take a commit, but the one that made it, which goes on to its state.
func (g *band) taken(maker *device, st api.State, c api.Commit, own int) {
	g.t.Helper()
	g.commits, g.secrets = append(g.commits, c), append(g.secrets, st.Now)
	g.leave(func(d *device) bool {
		if tree.Find(c.Next, d.member) >= 0 {
			return false
		}
		g.follow(d.now(), c, "of one that is out", api.ErrOut)
		return true
	})
	for _, d := range g.devices {
		got := st
		switch {
		case d == maker:
		case d.member == st.Member:
			g.follow(d.now(), c, "of its own", api.ErrRule)
			got = g.must(group.Own(g.s, c, own))
			same(g.t, "by Own", got, st)
		default:
			want, e := g.plainFollow(d.now(), c)
			same(g.t, "plain", e, api.OK)
			got = g.must(group.Follow(g.s, d.now(), c))
			same(g.t, "state", got, want)
			same(g.t, "secrets", got.Now, st.Now)
		}
		d.come(got)
	}
}

// leave: these devices are gone.
func (g *band) leave(which func(*device) bool) {
	g.devices = slices.DeleteFunc(g.devices, func(d *device) bool {
		if !which(d) {
			return false
		}
		g.gone = append(g.gone, d)
		return true
	})
}

func (g *band) last() api.Commit { return g.commits[len(g.commits)-1] }

// play is so many commits of all kinds.
func (g *band) play(many int) {
	g.t.Helper()
	for range many {
		if len(g.devices) == 0 || g.x.roll(4) == 0 {
			g.outside()
		} else {
			g.commit()
		}
	}
}

func (g *band) nextSecrets(group, epoch int, t api.Tree, init, commit int) api.Secrets {
	g.t.Helper()
	context, e := sched.Context(g.s, group, epoch, t)
	same(g.t, "Context", e, api.OK)
	now, e := sched.Next(g.s, init, commit, context)
	same(g.t, "Next", e, api.OK)
	return now
}

// plainCommit is Commit as the chapter's words go, of what goes.
func (g *band) plainCommit(st api.State, p group.Plan) (api.State, api.Commit) {
	g.t.Helper()
	at, fresh := st.Tree, []int{}
	for _, m := range p.Removes {
		at, _ = tree.Remove(at, m)
	}
	for _, a := range p.Adds {
		var leaf int
		at, leaf, _ = tree.Add(at, a)
		fresh = append(fresh, leaf)
	}
	next, c := g.plainMade(at, st.Group, st.Epoch+1, st.Now.Init, p, fresh)
	c.Adds, c.Removes = p.Adds, p.Removes
	l, _ := tree.Path(at, next.Leaf)
	row, _ := path.Secrets(g.s, p.Seed, len(l))
	for i, a := range p.Adds {
		secret := row[1+slices.Index(l, path.Joint(next.Tree, fresh[i], next.Leaf))]
		c.Joins = append(c.Joins, api.Join{Member: a.Member, Term: g.sealed(a.Pub, next.Now.Joiner, secret)})
	}
	return next, c
}

// plainExternal is External as the chapter's words go, of what goes.
func (g *band) plainExternal(f api.Face, p group.Plan) (api.State, api.Commit) {
	g.t.Helper()
	at, e := f.Tree, api.OK
	var removes []int
	if tree.Find(at, p.Member) >= 0 {
		removes = []int{p.Member}
		at, e = tree.Remove(at, p.Member)
	}
	a := api.Add{Member: p.Member, Epoch: p.KeyEpoch, Pub: g.pub(p.Seed)}
	if e == api.ErrRule {
		at, _ = tree.New(a)
	} else {
		at, _, _ = tree.Add(at, a)
	}
	st, c := g.plainMade(at, f.Group, f.Epoch+1, p.Entry, p, nil)
	c.External, c.Removes, c.Entry = true, removes, g.seal(f.Pub, p.Entry)
	return st, c
}

func (g *band) plainMade(at api.Tree, number, epoch, init int, p group.Plan, fresh []int) (api.State, api.Commit) {
	g.t.Helper()
	leaf := tree.Find(at, p.Member)
	next, keys, seals, secret, e := path.Make(g.s, at, leaf, p.KeyEpoch, p.Seed, fresh)
	same(g.t, "Make", e, api.OK)
	now := g.nextSecrets(number, epoch, next, init, secret)
	st := api.State{Group: number, Epoch: epoch, Member: p.Member, Leaf: leaf, Tree: next, Keys: keys, Now: now}
	c := api.Commit{Group: number, Epoch: epoch, By: p.By, Member: p.Member, KeyEpoch: p.KeyEpoch, Next: next, Seals: seals, Face: g.face(now)}
	if p.Own != 0 {
		c.Own = g.sealed(p.Own, now.Joiner, p.Seed)
	}
	return st, c
}

// plainFollow is Follow as the chapter's words go, of a state and a commit that may be, of one group.
func (g *band) plainFollow(st api.State, c api.Commit) (api.State, api.Errno) {
	g.t.Helper()
	leaf := tree.Find(c.Next, st.Member)
	switch {
	case c.Epoch != st.Epoch+1:
		return api.State{}, api.ErrStale
	case leaf < 0:
		return api.State{}, api.ErrOut
	case c.Member == st.Member || !plainComes(st.Tree, c):
		return api.State{}, api.ErrRule
	}
	init := st.Now.Init
	if c.External {
		entry, _ := g.s.Get(c.Entry)
		if !g.plainOpens(entry, st.Now.Outer) {
			return api.State{}, api.ErrKey
		}
		init = entry.B
	}
	keys, secret, e := path.Open(g.s, c.Next, tree.Find(c.Next, c.Member), leaf, st.Keys, c.Seals)
	if e != api.OK {
		return api.State{}, e
	}
	return g.plainBehind(c, st.Member, keys, g.nextSecrets(c.Group, c.Epoch, c.Next, init, secret))
}

// plainBehind is the state behind a commit, if its Face is right.
func (g *band) plainBehind(c api.Commit, member int, keys []api.Key, now api.Secrets) (api.State, api.Errno) {
	if g.face(now) != c.Face {
		return api.State{}, api.ErrKey
	}
	return api.State{Group: c.Group, Epoch: c.Epoch, Member: member, Leaf: tree.Find(c.Next, member), Tree: c.Next, Keys: keys, Now: now}, api.OK
}

// plainComes: does Next come of a tree? It is made of it anew.
func plainComes(at api.Tree, c api.Commit) bool {
	e := api.OK
	alone := len(tree.Members(at)) == 1
	removes, adds := c.Removes, c.Adds
	if c.External {
		removes, adds = nil, []api.Add{{Member: c.Member, Epoch: c.KeyEpoch, Pub: 1}}
		if tree.Find(at, c.Member) >= 0 && alone {
			at = api.Tree{}
		} else if tree.Find(at, c.Member) >= 0 {
			removes = []int{c.Member}
		}
	}
	for _, m := range removes {
		if at, e = tree.Remove(at, m); e != api.OK {
			return false
		}
	}
	for _, a := range adds {
		if at, _, e = tree.Add(at, a); e != api.OK {
			return false
		}
	}
	leaf := tree.Find(at, c.Member)
	nodes, e := tree.Path(at, leaf)
	if e != api.OK || len(at.Nodes) != len(c.Next.Nodes) {
		return false
	}
	var pubs []int
	for _, x := range nodes {
		pubs = append(pubs, c.Next.Nodes[x].Pub)
	}
	next, e := tree.SetPath(at, leaf, c.KeyEpoch, c.Next.Nodes[2*leaf].Pub, pubs)
	return e == api.OK && tell(next) == tell(c.Next)
}

// plainOpens: is a term a seal that a secret opens? (A public key opens nothing.)
func (g *band) plainOpens(x api.Term, secret int) bool {
	with, _ := g.s.Get(x.A)
	return x.Kind == api.TmSeal && (x.A == g.card(secret) || x.A == secret && with.Kind != api.TmPub)
}

// plainWelcome is Enter and Own as the chapter's words go, behind what they say of leaves: a seal, what opens it, a node.
func (g *band) plainWelcome(c api.Commit, member, seal, secret, node int) (api.State, api.Errno) {
	g.t.Helper()
	x, _ := g.s.Get(seal)
	inside, _ := g.s.Get(x.B)
	if !g.plainOpens(x, secret) || inside.Kind != api.TmPair || node < 0 {
		return api.State{}, api.ErrKey
	}
	keys, _, e := path.Above(g.s, c.Next, node, inside.B)
	if e != api.OK {
		return api.State{}, e
	}
	context, _ := sched.Context(g.s, c.Group, c.Epoch, c.Next)
	now, _ := sched.From(g.s, inside.A, context)
	return g.plainBehind(c, member, keys, now)
}

func (g *band) plainEnter(c api.Commit, member, secret int) (api.State, api.Errno) {
	g.t.Helper()
	at := slices.IndexFunc(c.Joins, func(j api.Join) bool { return j.Member == member })
	leaf, maker := tree.Find(c.Next, member), tree.Find(c.Next, c.Member)
	if at < 0 || leaf < 0 || maker < 0 || member == c.Member {
		return api.State{}, api.ErrGone
	}
	if c.Next.Nodes[2*leaf].Pub != g.card(secret) {
		return api.State{}, api.ErrKey
	}
	st, e := g.plainWelcome(c, member, c.Joins[at].Term, secret, path.Joint(c.Next, leaf, maker))
	if e == api.OK {
		st.Keys = append(st.Keys, api.Key{Node: 2 * leaf, Secret: secret})
	}
	return st, e
}

func (g *band) plainOwn(c api.Commit, own int) (api.State, api.Errno) {
	g.t.Helper()
	leaf := tree.Find(c.Next, c.Member)
	if c.Own == 0 || leaf < 0 {
		return api.State{}, api.ErrGone
	}
	return g.plainWelcome(c, c.Member, c.Own, own, 2*leaf)
}

// TestP128Plays: in any play all who are in have the same secrets, the same tree, and the keys of just the nodes that are theirs.
func TestP128Plays(t *testing.T) {
	x := dice(128)
	for range 60 {
		g := newBand(t, &x)
		for range 12 {
			g.play(1)
			for _, d := range g.devices {
				st := d.now()
				same(t, "secrets", st.Now, g.secrets[len(g.secrets)-1])
				same(t, "tree", st.Tree, g.last().Next)
				same(t, "keys", sortedKeys(st.Keys), keysOf(g.s, st.Tree, st.Leaf))
			}
		}
	}
}

func sortedKeys(l []api.Key) []api.Key {
	l = slices.Clone(l)
	slices.SortFunc(l, func(a, b api.Key) int { return a.Node - b.Node })
	return l
}

// keysOf is all keys that a leaf is to have by a tree.
func keysOf(s *term.Store, t api.Tree, leaf int) (l []api.Key) {
	for node, n := range t.Nodes {
		pub, _ := s.Get(n.Pub)
		if n.Pub != 0 && (node == 2*leaf || node%2 == 1 && below(leaf, node) && !slices.Contains(n.Unmerged, leaf)) {
			l = append(l, api.Key{Node: node, Secret: pub.A})
		}
	}
	return l
}

// below: is a leaf below a parent? That one has as many leaves on each side as its lowest noughts tell.
func below(leaf, node int) bool {
	half := 1
	for node&half != 0 {
		half *= 2
	}
	return 2*leaf > node-half && 2*leaf < node+half
}

// termsOf are those of a commit, and of a state.
func termsOf(c api.Commit) (l []int) {
	for _, a := range c.Adds {
		l = append(l, a.Pub)
	}
	for _, x := range c.Seals {
		l = append(l, x.Term)
	}
	for _, j := range c.Joins {
		l = append(l, j.Term)
	}
	return append(append(l, c.Own, c.Entry, c.Face), pubsOf(c.Next)...)
}

func pubsOf(t api.Tree) (l []int) {
	for _, n := range t.Nodes {
		l = append(l, n.Pub)
	}
	return l
}

func stateTerms(st api.State) (l []int) {
	for _, k := range st.Keys {
		l = append(l, k.Secret)
	}
	return append(append(l, pubsOf(st.Tree)...), st.Now.Joiner, st.Now.Epoch, st.Now.Init, st.Now.Export, st.Now.Outer, st.Now.App)
}

// TestP129Plays: what a device has had, and has drawn, gives away the epochs that it has held, with all commits, and no others:
// none from when it went, none from ahead of its first one. (But that of a card, which it has from the beginning: the epoch by
// which it came in is its first one.)
func TestP129Plays(t *testing.T) {
	x := dice(129)
	for range 25 {
		g := newBand(t, &x)
		g.play(12)
		var public []int
		for _, c := range g.commits {
			public = append(public, termsOf(c)...)
		}
		held(t, g, public, &device{})
		for _, d := range append(g.devices, g.gone...) {
			held(t, g, append(slices.Clone(public), knownTo(d)...), d)
		}
	}
}

func knownTo(d *device) (l []int) {
	for _, st := range d.states {
		l = append(l, stateTerms(st)...)
	}
	return append(l, d.drawn...)
}

// held: of the secrets of an epoch all follow for a device that has held it, none else.
func held(t *testing.T, g *band, known []int, d *device) {
	t.Helper()
	known = slices.DeleteFunc(known, func(n int) bool { return n == 0 })
	k, e := deduce.New(g.s, known)
	same(t, "New", e, api.OK)
	for epoch, now := range g.secrets {
		in := slices.ContainsFunc(d.states, func(st api.State) bool { return st.Epoch == epoch })
		for _, n := range []int{now.Joiner, now.Epoch, now.Init, now.Export, now.Outer, now.App} {
			if k.Has(n) != in {
				t.Fatal("the epoch", epoch, "of", len(g.secrets), "member", d.member, "in:", in, tell(g.commits))
			}
		}
	}
}

// TestP124Spoiled holds Follow, Enter and Own against the plain ones, of commits and states of which something is wrong.
func TestP124Spoiled(t *testing.T) {
	x := dice(124)
	seen := map[string]int{}
	for range 150 {
		g := newBand(t, &x)
		g.play(2 + x.roll(6))
		before := g.devices
		p := group.Plan{}
		var fresh []*device
		var c api.Commit
		if len(before) > 0 && x.roll(3) > 0 {
			d := before[x.roll(len(before))]
			p, fresh = g.plan(d)
			_, c, _ = group.Commit(g.s, d.now(), p)
		} else {
			p = g.planOutside(&device{member: 50})
			_, c, _ = group.External(g.s, group.FaceOf(g.last()), p)
		}
		for range 60 {
			bad := copyOf(c)
			for range x.roll(3) {
				g.spoil(&bad)
			}
			for _, d := range before {
				st := d.now()
				if x.roll(4) == 0 {
					g.spoilState(&st)
				}
				many := g.s.Len()
				got, e := group.Follow(g.s, st, bad)
				g.compare("Follow", many, got, e, func() (api.State, api.Errno) { return g.plainFollow(st, bad) }, seen)
			}
			for _, n := range fresh {
				secret := x.one([]int{n.drawn[0], n.drawn[0], n.drawn[0], 1 + x.roll(g.s.Len())})
				many := g.s.Len()
				got, e := group.Enter(g.s, bad, n.member, secret)
				g.compare("Enter", many, got, e, func() (api.State, api.Errno) { return g.plainEnter(bad, n.member, secret) }, seen)
			}
			own := x.one([]int{p.Own, p.Own, p.Own, 1 + x.roll(g.s.Len())})
			many := g.s.Len()
			got, e := group.Own(g.s, bad, own)
			g.compare("Own", many, got, e, func() (api.State, api.Errno) { return g.plainOwn(bad, own) }, seen)
		}
	}
	for _, what := range []string{"Follow 0", "Follow 9", "Follow 10", "Follow 11", "Follow 12", "Enter 0", "Enter 7", "Enter 12", "Own 0", "Own 7", "Own 12"} {
		if seen[what] < 50 {
			t.Error("too few of", what, seen)
		}
	}
}

// compare holds an answer against the plain one; with an error the store must be as it was.
func (g *band) compare(what string, many int, got api.State, e api.Errno, plain func() (api.State, api.Errno), seen map[string]int) {
	g.t.Helper()
	if e != api.OK && g.s.Len() != many {
		g.t.Fatal(what, e, "with terms more")
	}
	want, wantE := plain()
	same(g.t, what, e, wantE)
	same(g.t, what, got, want)
	seen[fmt.Sprint(what, " ", int(e))]++
}

// spoil changes something of a commit, so that it still may be.
func (g *band) spoil(c *api.Commit) {
	any := func() int { return 1 + g.x.roll(g.s.Len()) }
	switch g.x.roll(16) {
	case 0:
		c.Epoch += g.x.roll(3)
	case 1:
		c.Member = g.x.one(append(tree.Members(c.Next), 50))
	case 2:
		c.KeyEpoch = g.x.roll(3)
	case 3:
		c.External = !c.External
	case 4:
		c.Face = any()
	case 5:
		c.Entry = g.x.one([]int{any(), g.seal(any(), any()), g.seal(g.last().Face, any())})
	case 6:
		c.Own = g.x.one([]int{any(), 0, g.sealed(any(), any(), any())})
	case 7:
		c.Removes = append(c.Removes, g.x.one(append(tree.Members(c.Next), 50)))
	case 8:
		c.Adds = append(c.Adds, api.Add{Member: g.x.one(append(tree.Members(c.Next), 50)), Pub: any()})
	case 9, 10:
		if len(c.Seals) > 0 {
			l := &c.Seals[g.x.roll(len(c.Seals))]
			*l = api.Seal{At: g.x.one([]int{l.At, 1, 3}), To: g.x.one([]int{l.To, 0, 1, 2}), Term: g.x.one([]int{l.Term, any()})}
		}
	case 11:
		if len(c.Joins) > 0 {
			j := &c.Joins[g.x.roll(len(c.Joins))]
			*j = api.Join{Member: g.x.one(append(tree.Members(c.Next), 50)), Term: g.x.one([]int{j.Term, any()})}
		}
	case 12:
		c.Removes = nil
	case 13:
		c.Adds, c.Seals = nil, nil
	default:
		g.spoilTree(&c.Next)
	}
}

// spoilTree changes a node, so that the tree still may be.
func (g *band) spoilTree(t *api.Tree) {
	next := copyOfTree(*t)
	n := &next.Nodes[g.x.roll(len(next.Nodes))]
	switch g.x.roll(4) {
	case 0:
		*n = api.Node{}
	case 1:
		n.Pub = 1 + g.x.roll(g.s.Len())
	case 2:
		n.Pub = g.pub(1 + g.x.roll(g.s.Len()))
	case 3:
		n.Epoch = g.x.roll(3)
	}
	if tree.Check(next) == api.OK {
		*t = next
	}
}

// spoilState changes something of a state, so that it still may be.
func (g *band) spoilState(st *api.State) {
	any := func() int { return 1 + g.x.roll(g.s.Len()) }
	st.Keys = slices.Clone(st.Keys)
	switch g.x.roll(5) {
	case 0:
		st.Now.Init = any()
	case 1:
		st.Now.Outer = any()
	case 2:
		st.Keys[g.x.roll(len(st.Keys))].Secret = any()
	case 3:
		st.Keys = st.Keys[:g.x.roll(len(st.Keys))]
	case 4:
		next := st.Tree
		if g.spoilTree(&next); tree.Find(next, st.Member) == st.Leaf {
			st.Tree = next
		}
	}
}

// TestP128OwnStores: each device has a store of its own, and is told the commits by their terms' parts alone: what all work out
// is the same, though in none of these stores the maker's secrets stood ahead of that.
func TestP128OwnStores(t *testing.T) {
	x := dice(1281)
	for range 10 {
		g := newBand(t, &x)
		g.play(8)
		for _, d := range append(g.devices, g.gone...) {
			for i, st := range d.states[:len(d.states)-1] {
				own := term.New()
				c := movedCommit(g.s, own, g.commits[st.Epoch+1])
				got, e := group.Follow(own, movedState(g.s, own, st), c)
				want := d.states[i+1]
				if c.Member == d.member {
					continue
				}
				same(t, "Follow", e, api.OK)
				for j, n := range stateTerms(got) {
					same(t, "term", own.Dag(n), g.s.Dag(stateTerms(want)[j]))
				}
			}
		}
	}
}

// movedCommit is a commit in another store.
func movedCommit(from, to *term.Store, c api.Commit) api.Commit {
	c = copyOf(c)
	for i := range c.Adds {
		c.Adds[i].Pub = moved(from, to, c.Adds[i].Pub)
	}
	for i := range c.Seals {
		c.Seals[i].Term = moved(from, to, c.Seals[i].Term)
	}
	for i := range c.Joins {
		c.Joins[i].Term = moved(from, to, c.Joins[i].Term)
	}
	c.Own, c.Entry, c.Face = moved(from, to, c.Own), moved(from, to, c.Entry), moved(from, to, c.Face)
	c.Next = movedTree(from, to, c.Next)
	return c
}

func movedTree(from, to *term.Store, t api.Tree) api.Tree {
	t = copyOfTree(t)
	for i := range t.Nodes {
		t.Nodes[i].Pub = moved(from, to, t.Nodes[i].Pub)
	}
	return t
}

// movedState is a state in another store, without the secrets that following it does not need.
func movedState(from, to *term.Store, st api.State) api.State {
	st.Tree, st.Keys = movedTree(from, to, st.Tree), slices.Clone(st.Keys)
	for i := range st.Keys {
		st.Keys[i].Secret = moved(from, to, st.Keys[i].Secret)
	}
	st.Now = api.Secrets{Init: moved(from, to, st.Now.Init), Outer: moved(from, to, st.Now.Outer)}
	return st
}
