package deduce_test

import (
	"math"
	"slices"
	"testing"

	"phratry/api"
	"phratry/deduce"
	"phratry/term"
)

func random(n int64) api.Term            { return api.Term{Kind: api.TmRand, N: n} }
func data(n int64) api.Term              { return api.Term{Kind: api.TmData, N: n} }
func pair(a, b int) api.Term             { return api.Term{Kind: api.TmPair, A: a, B: b} }
func kdf(label int64, a, b int) api.Term { return api.Term{Kind: api.TmKdf, N: label, A: a, B: b} }
func pub(a int) api.Term                 { return api.Term{Kind: api.TmPub, A: a} }
func seal(a, b int) api.Term             { return api.Term{Kind: api.TmSeal, A: a, B: b} }
func hash(a int) api.Term                { return api.Term{Kind: api.TmHash, A: a} }

// put makes terms in order; each must be a new one.
func put(t *testing.T, s *term.Store, l ...api.Term) {
	t.Helper()
	for _, x := range l {
		want := s.Len() + 1
		if n, e := s.Make(x); n != want || e != api.OK {
			t.Fatalf("Make(%v) = %d, %v, not %d", x, n, e, want)
		}
	}
}

func storeOf(t *testing.T, l ...api.Term) *term.Store {
	t.Helper()
	s := term.New()
	put(t, s, l...)
	return s
}

// example is the store of the chapter's examples.
func example(t *testing.T) *term.Store {
	t.Helper()
	return storeOf(t, random(1), pub(1), random(2), seal(2, 3), random(3), seal(3, 5), pair(4, 6), hash(5))
}

func know(t *testing.T, s *term.Store, known ...int) *deduce.Know {
	t.Helper()
	k, e := deduce.New(s, known)
	if k == nil || e != api.OK {
		t.Fatalf("New(%v): %v, %v", known, k, e)
	}
	return k
}

func learn(t *testing.T, k *deduce.Know, l ...int) {
	t.Helper()
	for _, n := range l {
		if e := k.Learn(n); e != api.OK {
			t.Fatalf("Learn(%d): %v", n, e)
		}
	}
}

// having lists what a Know says of all terms of a store, and of numbers beside them.
func having(k *deduce.Know, s *term.Store) []int {
	var l []int
	for n := -2; n <= s.Len()+2; n++ {
		if k.Has(n) {
			l = append(l, n)
		}
	}
	return l
}

func same(t *testing.T, what string, got, want []int) {
	t.Helper()
	if !slices.Equal(got, want) {
		t.Errorf("%s: %v, not %v", what, got, want)
	}
}

// plainly works out what follows by the chapter's words, one at a time, until nothing is new.
func plainly(s *term.Store, known []int) []int {
	in := make([]bool, s.Len()+1)
	for _, n := range known {
		in[n] = true
	}
	for again := true; again; {
		again = false
		add := func(n int, so bool) {
			if so && !in[n] {
				in[n], again = true, true
			}
		}
		for n := 1; n <= s.Len(); n++ {
			x, _ := s.Get(n)
			switch x.Kind {
			case api.TmData:
				add(n, true)
			case api.TmPair:
				add(x.A, in[n])
				add(x.B, in[n])
				add(n, in[x.A] && in[x.B])
			case api.TmKdf:
				add(n, in[x.A] && (x.B == 0 || in[x.B]))
			case api.TmPub, api.TmHash:
				add(n, in[x.A])
			case api.TmSeal:
				key, _ := s.Get(x.A)
				add(n, in[x.A] && in[x.B])
				add(x.B, in[n] && (key.Kind == api.TmPub && in[key.A] || key.Kind != api.TmPub && in[x.A]))
			}
		}
	}
	var l []int
	for n := range in {
		if in[n] {
			l = append(l, n)
		}
	}
	return l
}

// dice draws the same numbers in every run.
type dice uint64

func (d *dice) roll(n int) int {
	*d = *d*6364136223846793005 + 1442695040888963407
	return int(uint64(*d) >> 33 % uint64(n))
}

// term draws one that may be in a store of so many terms; seals come often, with public keys among their keys.
func (d *dice) term(s *term.Store) api.Term {
	if s.Len() < 3 {
		return random(int64(s.Len()))
	}
	a, b, n := 1+d.roll(s.Len()), 1+d.roll(s.Len()), int64(d.roll(3))
	switch d.roll(12) {
	case 0, 1:
		return random(int64(d.roll(100)))
	case 2:
		return data(n)
	case 3, 4:
		return pair(a, b)
	case 5:
		return kdf(n, a, 0)
	case 6:
		return kdf(n, a, b)
	case 7, 8:
		return pub(a)
	case 9:
		return hash(a)
	}
	return seal(a, b)
}

func (d *dice) grow(s *term.Store, many int) {
	for many += s.Len(); s.Len() < many; {
		s.Make(d.term(s))
	}
}

func (d *dice) store(many int) *term.Store {
	s := term.New()
	d.grow(s, many)
	return s
}

func (d *dice) known(s *term.Store, many int) []int {
	var l []int
	for range many {
		l = append(l, 1+d.roll(s.Len()))
	}
	return l
}

// wild are numbers that no small store has.
var wild = []int{math.MinInt, math.MinInt + 1, -1 << 32, -9, -2, -1, 0, 9, 1 << 20, 1<<20 + 1, 1 << 32, math.MaxInt - 1, math.MaxInt}

// gone are the stores that are not there.
func gone() []*term.Store { return []*term.Store{nil, {}} }

func TestP41NewOfNoStore(t *testing.T) {
	for _, s := range gone() {
		for _, known := range [][]int{nil, {}, {1}, {0}, make([]int, api.MaxKnown+1)} {
			if k, e := deduce.New(s, known); k != nil || e != api.ErrNil {
				t.Errorf("%d known: %v, %v", len(known), k, e)
			}
		}
	}
}

func TestP41NewAtTheLimit(t *testing.T) {
	s := example(t)
	ones := slices.Repeat([]int{1}, api.MaxKnown+1)
	same(t, "MaxKnown", having(know(t, s, ones[:api.MaxKnown]...), s), []int{1, 2})
	ones[api.MaxKnown-1] = 3
	same(t, "the last one counts", having(know(t, s, ones[:api.MaxKnown]...), s), []int{1, 2, 3, 4})
	for _, known := range [][]int{ones, make([]int, api.MaxKnown+1), make([]int, 2*api.MaxKnown)} {
		if k, e := deduce.New(s, known); k != nil || e != api.ErrLimit {
			t.Errorf("%d known: %v, %v", len(known), k, e)
		}
	}
	many := term.New()
	var all []int
	for i := range api.MaxKnown {
		put(t, many, random(int64(i)))
		all = append(all, i+1)
	}
	put(t, many, random(api.MaxKnown))
	same(t, "as many as may be", having(know(t, many, all...), many), all)
}

func TestP41NewOfNoTerm(t *testing.T) {
	s := example(t)
	for _, n := range wild {
		for _, known := range [][]int{{n}, {1, n}, {n, 1}, {7, n, 8}} {
			if k, e := deduce.New(s, known); k != nil || e != api.ErrArg {
				t.Errorf("New(%v): %v, %v", known, k, e)
			}
		}
		if k, e := deduce.New(term.New(), []int{n}); k != nil || e != api.ErrArg {
			t.Errorf("New(%d) of an empty store: %v, %v", n, k, e)
		}
	}
}

func TestP41NewOfNothing(t *testing.T) {
	for _, known := range [][]int{nil, {}} {
		s := term.New()
		k := know(t, s, known...)
		same(t, "an empty store", having(k, s), nil)
		put(t, s, random(1), data(1), pair(1, 2))
		same(t, "filled since", having(k, s), []int{2})
		same(t, "nothing known", having(know(t, example(t), known...), example(t)), nil)
	}
}

func TestP41NewLeavesWhatItIsGiven(t *testing.T) {
	s := example(t)
	room := []int{7, 1, 40, 41, 42, 43, 44, 45, 46, 47, 48, 49}
	k, e := deduce.New(s, room[:2])
	if e != api.OK {
		t.Fatal(e)
	}
	if yes, e := deduce.Follows(s, room[:2], 8); !yes || e != api.OK {
		t.Error("Follows:", yes, e)
	}
	same(t, "handed in", room, []int{7, 1, 40, 41, 42, 43, 44, 45, 46, 47, 48, 49})
	room[0], room[1] = 8, 8
	same(t, "changed since", having(k, s), []int{1, 2, 3, 4, 5, 6, 7, 8})
	if s.Len() != 8 {
		t.Error("terms were made:", s.Len())
	}
}

func TestP42HasExamples(t *testing.T) {
	s := example(t)
	for _, c := range []struct{ known, want []int }{
		{[]int{7}, []int{4, 6, 7}},
		{[]int{7, 1}, []int{1, 2, 3, 4, 5, 6, 7, 8}},
		{[]int{7, 3}, []int{3, 4, 5, 6, 7, 8}},
		{[]int{8}, []int{8}},
		{[]int{2, 3}, []int{2, 3, 4}},
	} {
		same(t, "Has", having(know(t, s, c.known...), s), c.want)
		for n := 1; n <= s.Len(); n++ {
			if yes, e := deduce.Follows(s, c.known, n); yes != slices.Contains(c.want, n) || e != api.OK {
				t.Errorf("Follows(%v, %d) = %v, %v", c.known, n, yes, e)
			}
		}
	}
}

// Each kind of term alone, with each of its parts known or not.
func TestP42HasByKind(t *testing.T) {
	ground := []api.Term{random(1), random(2)}
	for _, c := range []struct {
		what        string
		more        []api.Term
		known, want []int
	}{
		{"drawn", nil, []int{1}, []int{1}},
		{"data", []api.Term{data(0), data(math.MinInt64), data(math.MaxInt64)}, nil, []int{3, 4, 5}},
		{"a pair's parts", []api.Term{pair(1, 2)}, []int{3}, []int{1, 2, 3}},
		{"a pair of A", []api.Term{pair(1, 2)}, []int{1}, []int{1}},
		{"a pair of B", []api.Term{pair(1, 2)}, []int{2}, []int{2}},
		{"a pair of both", []api.Term{pair(1, 2)}, []int{1, 2}, []int{1, 2, 3}},
		{"a pair of one twice", []api.Term{pair(1, 1)}, []int{1}, []int{1, 3}},
		{"a key gives nothing", []api.Term{kdf(5, 1, 2)}, []int{3}, []int{3}},
		{"a key without its context", []api.Term{kdf(5, 1, 2)}, []int{1}, []int{1}},
		{"a key without its secret", []api.Term{kdf(5, 1, 2)}, []int{2}, []int{2}},
		{"a key", []api.Term{kdf(5, 1, 2)}, []int{1, 2}, []int{1, 2, 3}},
		{"a key that has no context", []api.Term{kdf(0, 1, 0), kdf(7, 1, 0)}, []int{1}, []int{1, 3, 4}},
		{"a key that has no context gives nothing", []api.Term{kdf(0, 1, 0), kdf(7, 1, 0)}, []int{3}, []int{3}},
		{"a public key", []api.Term{pub(1)}, []int{1}, []int{1, 3}},
		{"a public key gives nothing", []api.Term{pub(1)}, []int{3}, []int{3}},
		{"a hash", []api.Term{hash(1)}, []int{1}, []int{1, 3}},
		{"a hash gives nothing", []api.Term{hash(1)}, []int{3}, []int{3}},
		{"a seal of its parts", []api.Term{seal(1, 2)}, []int{1, 2}, []int{1, 2, 3}},
		{"a seal without what is in it", []api.Term{seal(1, 2)}, []int{1}, []int{1}},
		{"a seal without its key", []api.Term{seal(1, 2)}, []int{2}, []int{2}},
		{"a seal alone", []api.Term{seal(1, 2)}, []int{3}, []int{3}},
		{"a seal and its key", []api.Term{seal(1, 2)}, []int{3, 1}, []int{1, 2, 3}},
		{"a seal and what is in it: not the key", []api.Term{seal(1, 2)}, []int{3, 2}, []int{2, 3}},
		{"a seal with a public key, of its parts", []api.Term{pub(1), seal(3, 2)}, []int{3, 2}, []int{2, 3, 4}},
		{"a seal with a public key, and that", []api.Term{pub(1), seal(3, 2)}, []int{4, 3}, []int{3, 4}},
		{"a seal with a public key, and the secret", []api.Term{pub(1), seal(3, 2)}, []int{4, 1}, []int{1, 2, 3, 4}},
		{"a seal with a public key alone", []api.Term{pub(1), seal(3, 2)}, []int{4}, []int{4}},
		{"a seal of its own key", []api.Term{seal(1, 1)}, []int{3}, []int{3}},
		{"a seal of its own secret", []api.Term{pub(1), seal(3, 1)}, []int{4, 3}, []int{3, 4}},
		{"a seal with data", []api.Term{data(4), seal(3, 2)}, []int{4}, []int{2, 3, 4}},
		{"a seal with the public key of data", []api.Term{data(4), pub(3), seal(4, 2)}, []int{5}, []int{2, 3, 4, 5}},
		{"a seal with a pair", []api.Term{random(3), pair(1, 2), seal(4, 3)}, []int{5, 2, 1}, []int{1, 2, 3, 4, 5}},
		{"a seal with a derived key", []api.Term{kdf(1, 1, 0), seal(3, 2)}, []int{4, 1}, []int{1, 2, 3, 4}},
		{"a seal with a hash", []api.Term{hash(1), seal(3, 2)}, []int{4, 3}, []int{2, 3, 4}},
		{"a seal with a seal", []api.Term{random(3), seal(1, 2), seal(4, 3)}, []int{4, 5}, []int{3, 4, 5}},
		{"a seal with a public key of a public key", []api.Term{pub(1), pub(3), seal(4, 2)}, []int{3, 5}, []int{2, 3, 4, 5}},
		{"a seal in a seal", []api.Term{random(3), seal(1, 2), seal(3, 4)}, []int{5, 1, 3}, []int{1, 2, 3, 4, 5}},
		{"a digest of data", []api.Term{data(1), data(2), pair(3, 4), hash(5), kdf(1, 6, 5)}, nil, []int{3, 4, 5, 6, 7}},
	} {
		s := storeOf(t, append(slices.Clone(ground), c.more...)...)
		same(t, c.what, having(know(t, s, c.known...), s), c.want)
		same(t, c.what+", plainly", plainly(s, c.known), c.want)
		slices.Reverse(c.known)
		same(t, c.what+", the other way round", having(know(t, s, c.known...), s), c.want)
	}
}

func TestP42HasOfNoTerm(t *testing.T) {
	s := example(t)
	k := know(t, s, 1, 7)
	for _, n := range wild {
		if k.Has(n) {
			t.Error("Has", n)
		}
	}
	put(t, s, random(9))
	if k.Has(9) {
		t.Error("a term that was drawn since")
	}
}

// What was made behind New, behind Learn and behind Has.
func TestP42HasOfWhatWasMadeSince(t *testing.T) {
	s := example(t)
	k := know(t, s, 1)
	put(t, s, data(1), pair(1, 9), seal(2, 9), kdf(3, 5, 0), random(4), seal(10, 13))
	same(t, "since New", having(k, s), []int{1, 2, 9, 10, 11})
	put(t, s, hash(11), hash(12))
	learn(t, k, 5)
	same(t, "since Has", having(k, s), []int{1, 2, 5, 8, 9, 10, 11, 12, 15, 16})
	put(t, s, seal(16, 13))
	learn(t, k, 17)
	same(t, "a new one that gives an old one away", having(k, s), []int{1, 2, 5, 8, 9, 10, 11, 12, 13, 14, 15, 16, 17})
	put(t, s, random(5), pub(18), seal(19, 3))
	learn(t, k, 20, 19)
	if k.Has(3) || !k.Has(20) {
		t.Error("new and sealed:", having(k, s))
	}
	learn(t, k, 18)
	if !k.Has(3) || !k.Has(4) {
		t.Error("new and opened:", having(k, s))
	}
}

func TestP42HasAgainstThePlainWay(t *testing.T) {
	d := dice(4)
	for range 1500 {
		s := d.store(4 + d.roll(60))
		known := d.known(s, d.roll(8))
		k := know(t, s, known...)
		want := plainly(s, known)
		same(t, "drawn", having(k, s), want)
		for n := 1; n <= s.Len(); n++ {
			if yes, e := deduce.Follows(s, known, n); yes != slices.Contains(want, n) || e != api.OK {
				t.Fatalf("Follows(%v, %d) = %v, %v", known, n, yes, e)
			}
		}
		for range 4 {
			d.grow(s, d.roll(20))
			if d.roll(2) == 0 {
				n := 1 + d.roll(s.Len())
				learn(t, k, n)
				known = append(known, n)
			}
			same(t, "grown", having(k, s), plainly(s, known))
		}
		if t.Failed() {
			return
		}
	}
}

func TestP42FollowsErrors(t *testing.T) {
	s := example(t)
	over := slices.Repeat([]int{1}, api.MaxKnown+1)
	for _, c := range []struct {
		s     *term.Store
		known []int
		n     int
		want  api.Errno
	}{
		{nil, nil, 1, api.ErrNil},
		{nil, over, 0, api.ErrNil},
		{nil, []int{9}, 9, api.ErrNil},
		{&term.Store{}, nil, 1, api.ErrNil},
		{&term.Store{}, over, 0, api.ErrNil},
		{s, over, 1, api.ErrLimit},
		{s, over, 0, api.ErrLimit},
		{s, make([]int, api.MaxKnown+1), 0, api.ErrLimit},
		{s, []int{9}, 1, api.ErrArg},
		{s, []int{1, 0}, 1, api.ErrArg},
		{s, []int{1}, 9, api.ErrArg},
		{s, []int{9}, 9, api.ErrArg},
		{term.New(), nil, 1, api.ErrArg},
	} {
		if yes, e := deduce.Follows(c.s, c.known, c.n); yes || e != c.want {
			t.Errorf("Follows(%d known, %d) = %v, %v, not %v", len(c.known), c.n, yes, e, c.want)
		}
	}
	for _, n := range wild {
		if yes, e := deduce.Follows(s, []int{1}, n); yes || e != api.ErrArg {
			t.Errorf("Follows(%d) = %v, %v", n, yes, e)
		}
	}
	if yes, e := deduce.Follows(s, over[:api.MaxKnown], 2); !yes || e != api.OK {
		t.Error("Follows of MaxKnown:", yes, e)
	}
}

func TestP43Learn(t *testing.T) {
	s := example(t)
	k := know(t, s)
	learn(t, k, 7)
	same(t, "7", having(k, s), []int{4, 6, 7})
	learn(t, k, 7, 4)
	same(t, "again", having(k, s), []int{4, 6, 7})
	learn(t, k, 2)
	same(t, "2", having(k, s), []int{2, 4, 6, 7})
	learn(t, k, 1)
	same(t, "1", having(k, s), []int{1, 2, 3, 4, 5, 6, 7, 8})
	other := know(t, s)
	same(t, "another one", having(other, s), nil)
}

func TestP43LearnErrors(t *testing.T) {
	s := example(t)
	k := know(t, s, 7)
	for _, n := range wild {
		if e := k.Learn(n); e != api.ErrArg {
			t.Errorf("Learn(%d): %v", n, e)
		}
	}
	same(t, "refused", having(k, s), []int{4, 6, 7})
	for range 5 {
		put(t, s, random(int64(s.Len())))
	}
	same(t, "refused, and made since", having(k, s), []int{4, 6, 7})
	learn(t, k, 9)
	same(t, "made since", having(k, s), []int{4, 6, 7, 9})
}

// Learn has no limit of its own.
func TestP43LearnMoreThanMaxKnown(t *testing.T) {
	s := example(t)
	k := know(t, s, slices.Repeat([]int{8}, api.MaxKnown)...)
	for range api.MaxKnown + 1 {
		if e := k.Learn(1); e != api.OK {
			t.Fatal(e)
		}
	}
	same(t, "much learned", having(k, s), []int{1, 2, 8})
}

func TestP43NotThere(t *testing.T) {
	for _, k := range []*deduce.Know{nil, {}} {
		for _, n := range append(wild, 1, 2) {
			if e := k.Learn(n); e != api.ErrNil {
				t.Errorf("Learn(%d): %v", n, e)
			}
			if k.Has(n) {
				t.Error("Has", n)
			}
		}
	}
}

func TestP44MoreKnownIsNotLess(t *testing.T) {
	d := dice(44)
	for range 300 {
		s := d.store(10 + d.roll(50))
		known := d.known(s, 1+d.roll(6))
		k := know(t, s)
		before := having(k, s)
		for _, n := range known {
			learn(t, k, n)
			after := having(k, s)
			if !slices.Contains(after, n) {
				t.Fatalf("%d is known, but does not follow", n)
			}
			for _, m := range before {
				if !slices.Contains(after, m) {
					t.Fatalf("%d followed until %d was learned", m, n)
				}
			}
			before = after
		}
	}
}

func TestP44WhatFollowsFromWhatFollows(t *testing.T) {
	d := dice(45)
	for range 300 {
		s := d.store(10 + d.roll(50))
		known := d.known(s, d.roll(6))
		all := having(know(t, s, known...), s)
		same(t, "all of it known", having(know(t, s, all...), s), all)
		k := know(t, s, known...)
		learn(t, k, all...)
		same(t, "all of it learned", having(k, s), all)
	}
}

func TestP44FirstOrLast(t *testing.T) {
	d := dice(46)
	for range 300 {
		s := d.store(10 + d.roll(50))
		known := d.known(s, 2+d.roll(6))
		want := having(know(t, s, known...), s)
		for range 6 {
			for i := range known {
				j := i + d.roll(len(known)-i)
				known[i], known[j] = known[j], known[i]
			}
			cut := d.roll(len(known) + 1)
			k := know(t, s, known[:cut]...)
			learn(t, k, known[cut:]...)
			same(t, "another order", having(k, s), want)
		}
	}
}

// All orders of a ladder of seals, public keys among them, where each opens the next one.
func TestP44AllOrders(t *testing.T) {
	s := storeOf(t, random(1), pub(1), random(2), seal(2, 3), kdf(1, 3, 0), random(3), seal(5, 6), pub(6), pair(3, 1), seal(8, 9), hash(9))
	var orders func(done, left []int)
	orders = func(done, left []int) {
		for i, n := range left {
			rest := slices.Concat(left[:i], left[i+1:])
			orders(append(slices.Clone(done), n), rest)
		}
		if len(left) > 0 {
			return
		}
		k := know(t, s)
		for i, n := range done {
			learn(t, k, n)
			same(t, "a part of the ladder", having(k, s), plainly(s, done[:i+1]))
		}
	}
	orders(nil, []int{3, 4, 7, 10, 2})
	orders(nil, []int{1, 2, 4, 7, 10})
}

// A store that is full, and as deep as may be: nothing of it may need room or time by its depth.
func TestP44DeepAndFull(t *testing.T) {
	s := storeOf(t, random(1), random(2))
	for n := 2; s.Len() < api.MaxTerms; n++ {
		x := pair(1, n)
		if n%2 == 0 {
			x = kdf(1, n, 1)
		}
		put(t, s, x)
	}
	k := know(t, s, 1)
	if k.Has(2) || k.Has(api.MaxTerms) || k.Has(api.MaxTerms+1) {
		t.Error("without the other one")
	}
	learn(t, k, 2)
	for n := 1; n <= api.MaxTerms; n++ {
		if !k.Has(n) {
			t.Fatal("not made:", n)
		}
	}
	if e := k.Learn(api.MaxTerms + 1); e != api.ErrArg {
		t.Error("Learn:", e)
	}
}

// Each seal opens the next one, against the order in which they were made; and pairs within pairs come apart.
func TestP44LongLadder(t *testing.T) {
	const steps = 150000
	s := term.New()
	for i := range steps {
		put(t, s, random(int64(i)))
	}
	bag := 1
	for i := steps; i > 1; i-- {
		key := i
		if i%2 == 0 {
			put(t, s, pub(i))
			key = s.Len()
		}
		put(t, s, seal(key, i-1))
		put(t, s, pair(s.Len(), bag))
		bag = s.Len()
	}
	put(t, s, random(steps), seal(s.Len()+1, bag), hash(steps))
	bag, top := s.Len()-1, s.Len()-2
	k := know(t, s, bag, steps)
	if k.Has(steps-1) || k.Has(1) {
		t.Error("opened without the key")
	}
	learn(t, k, top)
	for n := 1; n <= s.Len(); n++ {
		if !k.Has(n) {
			t.Fatal("not opened:", n)
		}
	}
}

// One term that very many wait for, and a store that grows between one question and the next.
func TestP44ManyWaitForOne(t *testing.T) {
	s := storeOf(t, random(0), pub(1))
	k := know(t, s)
	for i := 1; i <= 100000; i++ {
		put(t, s, random(int64(i)), seal(2, s.Len()+1))
		learn(t, k, s.Len())
		if k.Has(s.Len() - 1) {
			t.Fatal("opened without the secret")
		}
	}
	learn(t, k, 1)
	for n := 1; n <= s.Len(); n++ {
		if !k.Has(n) {
			t.Fatal("not opened:", n)
		}
	}
}
