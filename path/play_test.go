package path_test

import (
	"slices"
	"testing"

	"phratry/api"
	"phratry/index"
	"phratry/path"
	"phratry/term"
	"phratry/tree"
)

// dice tells the same row of numbers at every run.
type dice uint64

func (x *dice) roll(n int) int {
	*x = *x*6364136223846793005 + 1442695040888963407
	return int(uint64(*x) >> 33 % uint64(n))
}

func (x *dice) one(l []int) int { return l[x.roll(len(l))] }

// tree is any tree that may be, those too that no call makes; its Pubs are those of old.
func (x *dice) tree(s *term.Store) api.Tree {
	n := 1 << x.roll(4)
	t := api.Tree{Nodes: make([]api.Node, 2*n-1)}
	thin := 1 + x.roll(4)
	pub := func(node int) int {
		p, _ := s.Make(public(old(s, node)))
		return p
	}
	for leaf := range n {
		if x.roll(thin) == 0 || leaf == n-1 {
			t.Nodes[2*leaf] = api.Node{Pub: pub(2 * leaf), Member: 20 - leaf, Epoch: x.roll(3)}
		}
	}
	for node := 1; node < len(t.Nodes); node += 2 {
		if x.roll(3) == 0 {
			continue
		}
		t.Nodes[node].Pub = pub(node)
		first, last := index.Span(node)
		for leaf := first; leaf <= last; leaf++ {
			if t.Nodes[2*leaf].Pub > 0 && x.roll(3) == 0 {
				t.Nodes[node].Unmerged = append(t.Nodes[node].Unmerged, leaf)
			}
		}
	}
	return t
}

// knows: has a member's leaf the secret of a node, as the tree tells it?
func knows(t api.Tree, leaf, node int) bool {
	n := t.Nodes[node]
	return n.Pub > 0 && index.Within(2*leaf, node) && !slices.Contains(n.Unmerged, leaf)
}

// secretOf is what a Pub is the public key of.
func secretOf(s *term.Store, pub int) int {
	x, _ := s.Get(pub)
	return x.A
}

// keysOf is all keys that a leaf is to have by a tree, rising.
func keysOf(s *term.Store, t api.Tree, leaf int) []api.Key {
	var l []api.Key
	for node := range t.Nodes {
		if knows(t, leaf, node) {
			l = append(l, api.Key{Node: node, Secret: secretOf(s, t.Nodes[node].Pub)})
		}
	}
	return l
}

func leavesOf(t api.Tree) []int {
	var l []int
	for _, m := range tree.Members(t) {
		l = append(l, tree.Find(t, m))
	}
	return l
}

// plainMake is Make as the chapter's words go, term by term.
func plainMake(s *term.Store, t api.Tree, leaf, epoch, seed int, without []int) (next api.Tree, keys []api.Key, seals []api.Seal, secret int) {
	nodes, _ := tree.Path(t, leaf)
	targets, _ := tree.Targets(t, leaf, without)
	var pubs []int
	secret = seed
	for i := -1; i < len(nodes); i++ {
		at := 2 * leaf
		if i >= 0 {
			at = nodes[i]
			for _, to := range targets[i] {
				n, _ := s.Make(sealed(t.Nodes[to].Pub, secret))
				seals = append(seals, api.Seal{At: at, To: to, Term: n})
			}
		}
		key, _ := s.Make(kdf(api.LbNode, secret))
		pub, _ := s.Make(public(key))
		keys, pubs = append(keys, api.Key{Node: at, Secret: key}), append(pubs, pub)
		secret, _ = s.Make(kdf(api.LbPath, secret))
	}
	slices.SortFunc(keys, func(a, b api.Key) int { return a.Node - b.Node })
	next, _ = tree.SetPath(t, leaf, epoch, pubs[0], pubs[1:])
	return next, keys, seals, secret
}

// TestP92AnyTree holds Make against the plain one, and lets all others open what it has made. (P9.5)
func TestP92AnyTree(t *testing.T) {
	x := dice(92)
	s := term.New()
	for round := range 3000 {
		from := x.tree(s)
		seed := put(t, s, random(int64(1000+round)))
		without := []int{x.roll(8), x.roll(8)}[:x.roll(3)]
		leaf := x.one(leavesOf(from))
		next, keys, seals, secret, e := path.Make(s, from, leaf, round, seed, without)
		wantNext, wantKeys, wantSeals, wantSecret := plainMake(s, from, leaf, round, seed, without)
		if e != api.OK || told(s, next) != told(s, wantNext) || !slices.Equal(keys, wantKeys) || !slices.Equal(seals, wantSeals) || secret != wantSecret {
			t.Fatal(told(s, from), leaf, without, told(s, next), keys, seals, secret, e)
		}
		for _, other := range leavesOf(from) {
			if other != leaf {
				follow(t, s, from, next, leaf, other, seals, keys, secret)
			}
		}
	}
}

// follow lets a leaf open another one's path with all the keys that it has by the tree before: it must, if it is below a target.
func follow(t *testing.T, s *term.Store, from, next api.Tree, maker, leaf int, seals []api.Seal, keys []api.Key, secret int) {
	t.Helper()
	joint := path.Joint(next, leaf, maker)
	if joint != index.Common(2*leaf, 2*maker, tree.Size(next)) {
		t.Fatal(told(s, next), leaf, maker, joint)
	}
	target := slices.ContainsFunc(seals, func(x api.Seal) bool { return x.At == joint && knows(from, leaf, x.To) })
	had := keysOf(s, from, leaf)
	l, got, e := path.Open(s, next, maker, leaf, had, seals)
	if !target {
		if e != api.ErrKey || l != nil || got != 0 {
			t.Fatal(told(s, from), leaf, l, got, e)
		}
		return
	}
	if e != api.OK || got != secret || !slices.Equal(l, keysOf(s, next, leaf)) {
		t.Fatal(told(s, next), maker, leaf, toldKeys(s, l), toldKeys(s, had), spell(s, got), e)
	}
	for _, k := range keys {
		if index.Within(joint, k.Node) && !slices.Contains(l, k) {
			t.Fatal(told(s, next), leaf, k, l)
		}
	}
}

// band is a group as its members have it: the tree, and the keys of each.
type band struct {
	s    *term.Store
	tree api.Tree
	keys map[int][]api.Key // by members
	drew int
}

func (b *band) draw() int {
	b.drew++
	n, _ := b.s.Make(random(int64(b.drew)))
	return n
}

// changed lets members come and go ahead of a commit: the tree, the leaves that came in.
func (b *band) changed(t *testing.T, x *dice, maker int) (api.Tree, []int) {
	at := b.tree
	var fresh []int
	for _, m := range tree.Members(at) {
		if m != maker && x.roll(6) == 0 {
			at, _ = tree.Remove(at, m)
			delete(b.keys, m)
		}
	}
	for range x.roll(3) {
		secret, member := b.draw(), 100+b.drew
		more, leaf, e := tree.Add(at, api.Add{Member: member, Pub: put(t, b.s, public(secret))})
		if e == api.OK {
			at, fresh = more, append(fresh, leaf)
			b.keys[member] = []api.Key{{Node: 2 * leaf, Secret: secret}}
		}
	}
	return at, fresh
}

// commit lets a member make its path, all others open it, and new ones come in by the secret of their joint with it.
func (b *band) commit(t *testing.T, x *dice) {
	t.Helper()
	maker := x.one(tree.Members(b.tree))
	at, fresh := b.changed(t, x, maker)
	seed, leaf := b.draw(), tree.Find(at, maker)
	next, keys, seals, secret, e := path.Make(b.s, at, leaf, b.drew, seed, fresh)
	if e != api.OK {
		t.Fatal(told(b.s, at), e)
	}
	nodes, _ := tree.Path(at, leaf)
	row, _ := path.Secrets(b.s, seed, len(nodes)+1)
	b.tree, b.keys[maker] = next, keys
	for _, m := range tree.Members(next) {
		own := tree.Find(next, m)
		joint := path.Joint(next, own, leaf)
		got := secret
		switch {
		case slices.Contains(fresh, own):
			var l []api.Key
			l, got, e = path.Above(b.s, next, joint, row[1+slices.Index(nodes, joint)])
			b.keys[m] = append(l, b.keys[m]...)
		case m != maker:
			b.keys[m], got, e = path.Open(b.s, next, leaf, own, b.keys[m], seals)
		}
		slices.SortFunc(b.keys[m], func(a, b api.Key) int { return a.Node - b.Node })
		if e != api.OK || got != secret || !slices.Equal(b.keys[m], keysOf(b.s, next, own)) {
			t.Fatal(told(b.s, next), m, toldKeys(b.s, b.keys[m]), spell(b.s, got), e)
		}
	}
}

func TestP95Plays(t *testing.T) {
	x := dice(95)
	for range 60 {
		b := &band{s: term.New(), keys: map[int][]api.Key{}}
		first := b.draw()
		b.tree, _ = tree.New(api.Add{Member: 3, Pub: put(t, b.s, public(first))})
		b.keys[3] = []api.Key{{Secret: first}}
		for range 40 {
			b.commit(t, &x)
		}
	}
}

// plainAbove is Above as the chapter's words go: all secrets are made, then looked at.
func plainAbove(s *term.Store, next api.Tree, node, secret int) (l []api.Key, commit int, e api.Errno) {
	for place, x := range append([]int{node}, index.Direct(node, tree.Size(next))...) {
		if place > 0 && next.Nodes[x].Pub == 0 {
			continue
		}
		key, _ := s.Make(kdf(api.LbNode, secret))
		if pub, _ := s.Make(public(key)); pub != next.Nodes[x].Pub {
			return nil, 0, api.ErrKey
		}
		l = append(l, api.Key{Node: x, Secret: key})
		secret, _ = s.Make(kdf(api.LbPath, secret))
	}
	slices.SortFunc(l, func(a, b api.Key) int { return a.Node - b.Node })
	return l, secret, api.OK
}

// plainOpen is Open as the chapter's words go, of leaves that are there.
func plainOpen(s *term.Store, next api.Tree, from, leaf int, keys []api.Key, seals []api.Seal) ([]api.Key, int, api.Errno) {
	joint := path.Joint(next, leaf, from)
	for _, x := range seals {
		at := slices.IndexFunc(keys, func(k api.Key) bool { return k.Node == x.To })
		inside, _ := s.Get(x.Term)
		if joint < 0 || x.At != joint || at < 0 || inside.Kind != api.TmSeal {
			continue
		}
		pub, e := s.Make(public(keys[at].Secret))
		if (e != api.OK || pub != inside.A) && keys[at].Secret != inside.A {
			continue
		}
		newer, commit, e := plainAbove(s, next, joint, inside.B)
		if e != api.OK {
			return nil, 0, e
		}
		var l []api.Key
		for node := range next.Nodes {
			if at := slices.IndexFunc(newer, func(k api.Key) bool { return k.Node == node }); at >= 0 {
				l = append(l, newer[at])
				continue
			}
			for _, k := range keys {
				pub, e := s.Make(public(k.Secret))
				if k.Node == node && e == api.OK && pub == next.Nodes[node].Pub {
					l = append(l, k)
					break
				}
			}
		}
		return l, commit, api.OK
	}
	return nil, 0, api.ErrKey
}

// TestP93AnySeals shuffles, doubles and spoils keys and seals, and holds Open and Above against the plain ones.
func TestP93AnySeals(t *testing.T) {
	x := dice(93)
	s := term.New()
	went := 0
	for round := range 6000 {
		from := x.tree(s)
		leaves := leavesOf(from)
		if len(leaves) < 2 {
			continue
		}
		maker, leaf := x.one(leaves), x.one(leaves)
		if maker == leaf {
			continue
		}
		next, keys, seals, _, _ := path.Make(s, from, maker, 0, put(t, s, random(int64(1000+round))), nil)
		had := append(keysOf(s, from, leaf), keys[:x.roll(len(keys)+1)]...)
		spoilKeys(&x, s, had)
		seals = slices.Concat(seals, seals)
		spoilSeals(&x, s, seals)
		if x.roll(8) == 0 {
			next.Nodes[x.roll(len(next.Nodes)/2)*2+1] = api.Node{}
		}
		if x.roll(8) == 0 {
			next.Nodes[x.roll(len(next.Nodes)/2)*2+1].Pub = put(t, s, public(old(s, 3)))
		}
		l, secret, e := path.Open(s, next, maker, leaf, had, seals)
		wantL, wantSecret, want := plainOpen(s, next, maker, leaf, had, seals)
		if e != want || secret != wantSecret || !slices.Equal(l, wantL) {
			t.Fatal(told(s, next), maker, leaf, toldKeys(s, had), toldSeals(s, seals), toldKeys(s, l), secret, e, wantL, wantSecret, want)
		}
		if e == api.OK {
			went++
		}
		node, inside := x.roll(len(next.Nodes)), 1+x.roll(s.Len())
		if x.roll(2) == 0 {
			inside = secretOf(s, secretOf(s, next.Nodes[node].Pub))
		}
		if inside == 0 {
			continue
		}
		l, secret, e = path.Above(s, next, node, inside)
		wantL, wantSecret, want = plainAbove(s, next, node, inside)
		if e != want || secret != wantSecret || !slices.Equal(l, wantL) {
			t.Fatal(told(s, next), node, inside, l, secret, e, want)
		}
	}
	if went < 1000 {
		t.Error("too few opened:", went)
	}
}

func spoilKeys(x *dice, s *term.Store, l []api.Key) {
	for range x.roll(3) {
		at, other := x.roll(len(l)), x.roll(len(l))
		switch x.roll(4) {
		case 0:
			l[at], l[other] = l[other], l[at]
		case 1:
			l[at].Node = l[other].Node
		case 2:
			l[at].Secret = 1 + x.roll(s.Len())
		case 3:
			l[at].Node = x.roll(20) - 2
		}
	}
}

func spoilSeals(x *dice, s *term.Store, l []api.Seal) {
	for range x.roll(3 * len(l)) {
		at, other := x.roll(len(l)), x.roll(len(l))
		switch x.roll(6) {
		case 0, 1:
			l[at], l[other] = l[other], l[at]
		case 2:
			l[at].At = l[other].At
		case 3:
			l[at].To = l[other].To
		case 4:
			l[at].Term = 1 + x.roll(s.Len())
		case 5:
			inside, _ := s.Get(l[other].Term)
			with, _ := s.Get(inside.A)
			if with.Kind == api.TmPub {
				l[at].Term, _ = s.Make(sealed(with.A, inside.B))
			}
		}
	}
}
