package account_test

import (
	"slices"
	"testing"

	"phratry/account"
	"phratry/api"
	"phratry/deduce"
	"phratry/group"
	"phratry/term"
)

// dice tells the same row of numbers at every run.
type dice uint64

func (x *dice) roll(n int) int {
	*x = *x*6364136223846793005 + 1442695040888963407
	return int(uint64(*x) >> 33 % uint64(n))
}

// change is any that may be, of terms of a store that has some.
func (x *dice) change(s *term.Store) (adds []api.Add, removes []int) {
	for range x.roll(api.MaxLeaves + 1) {
		adds = append(adds, api.Add{Member: x.roll(70) - 5, Epoch: x.roll(9) - 2, Pub: 1 + x.roll(s.Len())})
	}
	for range x.roll(api.MaxLeaves + 1) {
		removes = append(removes, x.roll(70)-5)
	}
	return adds, removes
}

// plainDigest is the digest as the chapter's words go, by the store's own calls.
func plainDigest(t *testing.T, s *term.Store, adds []api.Add, removes []int) int {
	t.Helper()
	var l []int
	public := func(n int) { l = append(l, put(t, s, data(int64(n)))) }
	public(len(adds))
	for _, a := range adds {
		public(a.Member)
		public(a.Epoch)
		l = append(l, a.Pub)
	}
	public(len(removes))
	for _, m := range removes {
		public(m)
	}
	list, e := s.List(l...)
	if e != api.OK {
		t.Fatal(e)
	}
	return put(t, s, hash(list))
}

// plainSeed is a seed, likewise.
func plainSeed(t *testing.T, s *term.Store, secret, group, epoch, device, digest int) int {
	t.Helper()
	l := []int{put(t, s, data(int64(group))), put(t, s, data(int64(epoch))), put(t, s, data(int64(device))), digest}
	context, e := s.List(l...)
	if e != api.OK {
		t.Fatal(e)
	}
	return put(t, s, kdf(12, secret, context))
}

// TestP131AnyChange holds Digest against the plain one, in two stores that have the same before: nothing else is made.
func TestP131AnyChange(t *testing.T) {
	x := dice(131)
	for range 3000 {
		s, other := kinds(t), kinds(t)
		adds, removes := x.change(s)
		n := digest(t, s, adds, removes)
		want := plainDigest(t, other, adds, removes)
		if !slices.Equal(s.Dag(n), other.Dag(want)) || s.Len() != other.Len() {
			t.Fatal(adds, removes, s.Dag(n))
		}
		many := s.Len()
		if again := digest(t, s, adds, removes); again != n || s.Len() != many {
			t.Fatal("again", adds, removes, again)
		}
	}
}

// TestP131EachTells: changes that differ in anything have digests that are two.
func TestP131EachTells(t *testing.T) {
	s := kinds(t)
	for n := range 9 {
		put(t, s, data(int64(n)))
	}
	three, zero := put(t, s, data(3)), put(t, s, data(0))
	tail := put(t, s, pair(three, zero)) // looks like a part of the list
	var seen []int
	for _, c := range []struct {
		adds    []api.Add
		removes []int
	}{
		{nil, nil},
		{nil, []int{0}}, {nil, []int{1}}, {nil, []int{0, 0}}, {nil, []int{0, 1}}, {nil, []int{1, 0}}, {nil, []int{1, 0, 0}},
		{comeIn(0, 0, 1), nil}, {comeIn(1, 0, 1), nil}, {comeIn(0, 1, 1), nil}, {comeIn(0, 0, 2), nil},
		{comeIn(0, 0, three), nil}, {comeIn(0, 0, zero), nil}, {comeIn(0, 0, tail), nil}, {comeIn(0, 3, zero), nil},
		{comeIn(0, 0, 1), []int{0}}, {comeIn(0, 0, 1), []int{1}}, {comeIn(0, 0, zero), []int{0, 0, 0}},
		{comeIn(0, 0, 1, 0, 0, 1), nil}, {comeIn(0, 0, 1, 1, 0, 1), nil}, {comeIn(1, 0, 1, 0, 0, 1), nil},
		{comeIn(0, 0, zero, 0, 0, zero), nil}, {comeIn(0, 0, 1, 0, 0, 2), nil}, {comeIn(0, 0, 2, 0, 0, 1), nil},
	} {
		n := digest(t, s, c.adds, c.removes)
		if slices.Contains(seen, n) {
			t.Error(c)
		}
		seen = append(seen, n)
	}
}

// TestR5TwoStores: the same calls in a store that has its terms in another order make the same terms.
func TestR5TwoStores(t *testing.T) {
	tell := func(s *term.Store) (l [][]api.Term) {
		secret, pub := put(t, s, random(7)), put(t, s, public(put(t, s, random(8))))
		d := digest(t, s, comeIn(5, 6, pub), []int{9, 8})
		key, p := card(t, s, secret)
		for _, n := range []int{d, key, p, own(t, s, secret), seed(t, s, secret, 1, 2, 3, d)} {
			l = append(l, s.Dag(n))
		}
		return l
	}
	a, b := term.New(), term.New()
	for n := range 20 {
		put(t, b, random(int64(10-n/2)))
		put(t, b, data(int64(20-n)))
	}
	if !slices.EqualFunc(tell(a), tell(b), slices.Equal) {
		t.Error("two stores, two answers")
	}
}

// follows: does a term follow from known ones?
func follows(t *testing.T, s *term.Store, n int, known ...int) bool {
	t.Helper()
	ok, e := deduce.Follows(s, known, n)
	if e != api.OK {
		t.Fatal(n, known, e)
	}
	return ok
}

// without is a list but for what stands at a place.
func without(l []int, at int) []int { return append(slices.Clone(l[:at]), l[at+1:]...) }

// digests are some of a store, and the public keys that stand in them.
func digests(t *testing.T, s *term.Store) (l, pubs []int) {
	t.Helper()
	for n := range 2 {
		pubs = append(pubs, put(t, s, public(put(t, s, random(int64(500+n))))))
	}
	return []int{
		digest(t, s, nil, nil),
		digest(t, s, nil, []int{2}),
		digest(t, s, comeIn(2, 0, pubs[0]), nil),
		digest(t, s, comeIn(2, 0, pubs[1]), []int{2}),
	}, pubs
}

// TestP134Seeds: seeds of other groups, epochs, devices, digests are others; who knows all but one, the keys that the account
// hands out beside them and all that is public does not know that one, nor the secret; who knows the secret knows all.
func TestP134Seeds(t *testing.T) {
	s := term.New()
	secret := put(t, s, random(1))
	digests, pubs := digests(t, s)
	var seeds []int
	for _, group := range []int{0, 1, 63} {
		for _, epoch := range []int{0, 1, 2} {
			for _, device := range []int{0, 1, 7} {
				for _, d := range digests {
					seeds = append(seeds, seed(t, s, secret, group, epoch, device, d))
				}
			}
		}
	}
	if slices.Sort(seeds); len(slices.Compact(slices.Clone(seeds))) != 3*3*3*4 {
		t.Fatal("two seeds are one")
	}
	key, pub := card(t, s, secret)
	beside := append(slices.Clone(pubs), key, pub, own(t, s, secret))
	for i, n := range seeds {
		if follows(t, s, n, append(without(seeds, i), beside...)...) {
			t.Error(i, "follows from all others")
		}
		if !follows(t, s, n, append(slices.Clone(pubs), secret)...) {
			t.Error(i, "does not follow from the secret")
		}
	}
	if follows(t, s, secret, append(slices.Clone(seeds), beside...)...) {
		t.Error("the secret follows")
	}
}

// TestP134Swapped: the numbers in a seed's context do not stand for one another.
func TestP134Swapped(t *testing.T) {
	s := term.New()
	secret, other := put(t, s, random(1)), put(t, s, random(2))
	digests, _ := digests(t, s)
	var seeds []int
	for _, x := range []int{secret, other} {
		for _, l := range [][3]int{{1, 2, 3}, {1, 3, 2}, {2, 1, 3}, {2, 3, 1}, {3, 1, 2}, {3, 2, 1}, {1, 1, 1}, {-1, 1, 1}, {1, -1, 1}, {1, 1, -1}} {
			for _, d := range digests {
				n := seed(t, s, x, l[0], l[1], l[2], d)
				if slices.Contains(seeds, n) {
					t.Error(x, l, d)
				}
				seeds = append(seeds, n)
			}
		}
	}
	for i, n := range seeds {
		if follows(t, s, n, without(seeds, i)...) {
			t.Error(i, "follows from all others")
		}
	}
}

// TestP134Keys: neither a seed nor one of the two keys follows from the other ones; of the card its public key follows alone.
func TestP134Keys(t *testing.T) {
	s := term.New()
	secret, other := put(t, s, random(1)), put(t, s, random(2))
	d := digest(t, s, nil, nil)
	var secrets []int
	for _, x := range []int{secret, other} {
		key, pub := card(t, s, x)
		if !follows(t, s, pub, key) || follows(t, s, key, pub) {
			t.Error("a card's public key")
		}
		secrets = append(secrets, key, own(t, s, x), seed(t, s, x, 3, 4, 5, d))
	}
	for i, n := range secrets {
		if follows(t, s, n, without(secrets, i)...) {
			t.Error(i, "follows from the others")
		}
		if !follows(t, s, n, secret, other) || follows(t, s, n, secret) != (i < 3) || follows(t, s, n, other) != (i >= 3) {
			t.Error(i, "and the secrets of which it comes")
		}
	}
	for _, n := range []int{secret, other} {
		if follows(t, s, n, secrets...) {
			t.Error("a secret follows")
		}
	}
}

// TestP134Any: any seeds, of which some may be the same call twice.
func TestP134Any(t *testing.T) {
	type call struct{ secret, group, epoch, device, digest int }
	x := dice(134)
	for range 30 {
		s := term.New()
		for n := range 3 {
			put(t, s, random(int64(n)))
		}
		digests, pubs := digests(t, s)
		seeds, numbers, known := map[call]int{}, []int{}, slices.Clone(pubs)
		for range 40 {
			c := call{1 + x.roll(3), x.roll(3), x.roll(3), x.roll(3), digests[x.roll(len(digests))]}
			n := seed(t, s, c.secret, c.group, c.epoch, c.device, c.digest)
			if before, ok := seeds[c]; ok != slices.Contains(numbers, n) || ok && before != n {
				t.Fatal(c, n, before)
			} else if !ok {
				seeds[c], numbers = n, append(numbers, n)
			}
		}
		for secret := 1; secret <= 3; secret++ {
			key, pub := card(t, s, secret)
			known = append(known, key, pub, own(t, s, secret))
		}
		for i, n := range numbers {
			if follows(t, s, n, append(without(numbers, i), known...)...) {
				t.Fatal(s.Dag(n))
			}
		}
	}
}

// stateTerms is all terms of a state.
func stateTerms(st api.State) []int {
	l := []int{st.Now.Joiner, st.Now.Epoch, st.Now.Init, st.Now.Export, st.Now.Outer, st.Now.App}
	for _, n := range st.Tree.Nodes {
		l = append(l, n.Pub)
	}
	for _, k := range st.Keys {
		l = append(l, k.Secret)
	}
	return slices.DeleteFunc(l, func(n int) bool { return n == 0 })
}

// commitTerms is all terms of a commit.
func commitTerms(c api.Commit) []int {
	l := []int{c.Own, c.Entry, c.Face}
	for _, x := range c.Seals {
		l = append(l, x.Term)
	}
	for _, x := range c.Joins {
		l = append(l, x.Term)
	}
	for _, n := range c.Next.Nodes {
		l = append(l, n.Pub)
	}
	return slices.DeleteFunc(l, func(n int) bool { return n == 0 })
}

// twoDevices is an account of the devices 8 and 9 as either has it, and the commits of it.
func twoDevices(t *testing.T, s *term.Store) (a, b api.State, commits []api.Commit) {
	t.Helper()
	first := put(t, s, random(1))
	a, c, e := group.Create(s, -2, group.Plan{By: 8, Member: 8, Seed: put(t, s, random(2))})
	if e != api.OK {
		t.Fatal(e)
	}
	a, d, e := group.Commit(s, a, group.Plan{
		By: 8, Member: 8, Seed: put(t, s, random(3)), Adds: []api.Add{{Member: 9, Pub: put(t, s, public(first))}},
	})
	if e != api.OK {
		t.Fatal(e)
	}
	b, e = group.Enter(s, d, 9, first)
	if e != api.OK || a.Now.Export != b.Now.Export {
		t.Fatal(e)
	}
	return a, b, []api.Commit{c, d}
}

// TestOverGroups: what an account hands out leads all that are to come into a conversation to the same secrets.
func TestOverGroups(t *testing.T) {
	s := term.New()
	a, b, _ := twoDevices(t, s)
	made := seed(t, s, a.Now.Export, 3, 0, 8, digest(t, s, nil, nil))
	conversation, c, e := group.Create(s, 3, group.Plan{By: 8, Member: 1, KeyEpoch: 1, Seed: made, Own: own(t, s, a.Now.Export)})
	if e != api.OK {
		t.Fatal(e)
	}
	if st, e := group.Own(s, c, own(t, s, b.Now.Export)); e != api.OK || st.Now != conversation.Now {
		t.Error("the other device", e)
	}
	friend := put(t, s, random(70))
	key, pub := card(t, s, friend)
	adds := []api.Add{{Member: 2, Epoch: 5, Pub: pub}}
	made = seed(t, s, a.Now.Export, 3, 1, 8, digest(t, s, adds, nil))
	conversation, c, e = group.Commit(s, conversation, group.Plan{By: 8, Member: 1, KeyEpoch: 1, Seed: made, Adds: adds})
	if e != api.OK {
		t.Fatal(e)
	}
	if st, e := group.Enter(s, c, 2, key); e != api.OK || st.Now != conversation.Now {
		t.Error("the friend", e)
	}
}

// TestP134Revoked: a device that was taken out of the account does not know what the next epoch hands out.
func TestP134Revoked(t *testing.T) {
	s := term.New()
	a, b, commits := twoDevices(t, s)
	known := stateTerms(b)
	for _, l := range [][]int{{9}, nil} {
		st, c, e := group.Commit(s, a, group.Plan{By: 8, Member: 8, Seed: put(t, s, random(int64(4+len(l)))), Removes: l})
		if e != api.OK {
			t.Fatal(e)
		}
		seen := slices.Clone(known)
		for _, x := range append(slices.Clone(commits), c) {
			seen = append(seen, commitTerms(x)...)
		}
		key, pub := card(t, s, st.Now.Export)
		d := digest(t, s, nil, nil)
		for i, n := range []int{key, own(t, s, st.Now.Export), seed(t, s, st.Now.Export, 3, 1, 8, d), seed(t, s, st.Now.Export, 3, 1, 9, d)} {
			if follows(t, s, n, append(seen, pub)...) != (l == nil) {
				t.Error(l, i)
			}
		}
		if !follows(t, s, seed(t, s, a.Now.Export, 3, 1, 8, d), seen...) {
			t.Error("what it was handed before is gone")
		}
	}
}

// TestP134PublicSecret: the promise is of secrets; from public data everything follows.
func TestP134PublicSecret(t *testing.T) {
	s := term.New()
	n := put(t, s, data(4))
	key, pub := card(t, s, n)
	for _, x := range []int{key, pub, own(t, s, n), seed(t, s, n, 1, 2, 3, n)} {
		if !follows(t, s, x) {
			t.Error(s.Dag(x))
		}
	}
	if _, e := account.Seed(s, n, 1, 2, 3, digest(t, s, nil, nil)); e != api.OK {
		t.Error(e)
	}
}
