package chain_test

import (
	"math"
	"slices"
	"testing"

	"phratry/api"
	"phratry/chain"
	"phratry/term"
)

// wild are numbers at the edges of int, none of them a term of a small store.
var wild = []int{math.MinInt, math.MinInt + 1, -1 << 32, -8, -2, -1, 1 << 20, 1<<20 + 1, 1 << 32, 1<<32 + 1, math.MaxInt - 1, math.MaxInt}

func random(n int64) api.Term            { return api.Term{Kind: api.TmRand, N: n} }
func data(n int64) api.Term              { return api.Term{Kind: api.TmData, N: n} }
func pair(a, b int) api.Term             { return api.Term{Kind: api.TmPair, A: a, B: b} }
func kdf(label int64, a, b int) api.Term { return api.Term{Kind: api.TmKdf, N: label, A: a, B: b} }
func public(a int) api.Term              { return api.Term{Kind: api.TmPub, A: a} }
func sealed(a, b int) api.Term           { return api.Term{Kind: api.TmSeal, A: a, B: b} }
func hash(a int) api.Term                { return api.Term{Kind: api.TmHash, A: a} }

// put makes a term that must go.
func put(t *testing.T, s *term.Store, x api.Term) int {
	t.Helper()
	n, e := s.Make(x)
	if e != api.OK {
		t.Fatal(x, e)
	}
	return n
}

// kinds is a store with a term of each kind, from 1 to 7.
func kinds(t *testing.T) *term.Store {
	t.Helper()
	s := term.New()
	for i, x := range []api.Term{random(7), data(-3), pair(1, 2), kdf(4, 1, 0), public(1), sealed(5, 3), hash(2)} {
		if put(t, s, x) != i+1 {
			t.Fatal(i)
		}
	}
	return s
}

// lost are stores that are not there.
func lost() []*term.Store { return []*term.Store{nil, {}} }

// all tells what a store has.
func all(s *term.Store) []api.Term {
	var l []api.Term
	for n := 1; n <= s.Len(); n++ {
		x, _ := s.Get(n)
		l = append(l, x)
	}
	return l
}

// secret is the sender's secret of a number, by the chapter's words and the numbers of its labels.
func secret(t *testing.T, s *term.Store, app, sender, n int) int {
	t.Helper()
	x := put(t, s, kdf(9, app, put(t, s, data(int64(sender)))))
	for range n {
		x = put(t, s, kdf(10, x, 0))
	}
	return x
}

// key is the sender's key of a number, likewise.
func key(t *testing.T, s *term.Store, app, sender, n int) int {
	t.Helper()
	return put(t, s, kdf(11, secret(t, s, app, sender, n), 0))
}

// begin is a chain that must go.
func begin(t *testing.T, s *term.Store, app, sender int) *chain.Chain {
	t.Helper()
	c, e := chain.New(s, app, sender)
	if e != api.OK || c == nil {
		t.Fatal(app, sender, c, e)
	}
	return c
}

func TestP111Key(t *testing.T) {
	for app := 1; app <= 7; app++ {
		for _, sender := range []int{0, 1, 9, 63, 511, -1, -3, math.MinInt, math.MaxInt} {
			for _, n := range []int{0, 1, 2, 3, 64, 65, 100} {
				s, other := kinds(t), kinds(t)
				got, e := chain.Key(s, app, sender, n)
				want := key(t, other, app, sender, n)
				if e != api.OK || !slices.Equal(s.Dag(got), other.Dag(want)) || s.Len() != other.Len() {
					t.Fatal(app, sender, n, s.Dag(got), e)
				}
				if again, e := chain.Key(s, app, sender, n); again != got || e != api.OK || s.Len() != other.Len() {
					t.Fatal("again", app, sender, n, again, e)
				}
			}
		}
	}
}

// TestP111TermByTerm writes a key out: the second context is none, and neither is the third one.
func TestP111TermByTerm(t *testing.T) {
	s := term.New()
	put(t, s, random(0))
	n, e := chain.Key(s, 1, 9, 2)
	want := []api.Term{random(0), data(9), kdf(9, 1, 2), kdf(10, 3, 0), kdf(10, 4, 0), kdf(11, 5, 0)}
	if e != api.OK || !slices.Equal(s.Dag(n), want) || !slices.Equal(all(s), want) {
		t.Error(n, e, all(s))
	}
	n, e = chain.Key(s, 1, 9, 0)
	if x, _ := s.Get(n); e != api.OK || x != kdf(11, 3, 0) || s.Len() != len(want)+1 {
		t.Error(n, e, x)
	}
}

// TestP111EachTells: keys that differ in one argument are two.
func TestP111EachTells(t *testing.T) {
	s := kinds(t)
	var seen []int
	for app := 1; app <= 7; app++ {
		for sender := -2; sender <= 2; sender++ {
			for n := range 5 {
				k, e := chain.Key(s, app, sender, n)
				if e != api.OK || slices.Contains(seen, k) {
					t.Fatal(app, sender, n, k, e)
				}
				seen = append(seen, k)
			}
		}
	}
}

func TestP111Edge(t *testing.T) {
	s := kinds(t)
	for _, n := range []int{65537, 65538, 1 << 20, 1<<32 + 1, math.MaxInt - 3, math.MaxInt} {
		if k, e := chain.Key(s, 1, 9, n); k != 0 || e != api.ErrLimit || s.Len() != 7 {
			t.Error(n, k, e, s.Len())
		}
	}
	for _, n := range []int{65535, 65536} {
		k, e := chain.Key(s, 1, 9, n)
		if e != api.OK || k != key(t, s, 1, 9, n) {
			t.Error(n, k, e)
		}
	}
	if many := 7 + 1 + 65537 + 2; s.Len() != many {
		t.Error(s.Len(), "not", many)
	}
}

func TestP111Wrong(t *testing.T) {
	s := kinds(t)
	before := all(s)
	refused := func(s *term.Store, app, n int, want api.Errno) {
		t.Helper()
		for _, sender := range append(wild, 0, 9) {
			if k, e := chain.Key(s, app, sender, n); k != 0 || e != want {
				t.Error(app, sender, n, k, e, "not", want)
			}
		}
	}
	for _, app := range append(wild, 0, 8, 9) {
		for _, n := range append(wild, 0, 5, api.MaxKnown, api.MaxKnown+1) {
			refused(s, app, n, api.ErrArg)
			refused(term.New(), app, n, api.ErrArg)
		}
	}
	for _, n := range []int{math.MinInt, -1 << 32, -2, -1} {
		refused(s, 1, n, api.ErrArg)
	}
	for _, none := range lost() {
		for _, n := range append(wild, 0, 1) {
			refused(none, n, 0, api.ErrNil)
			refused(none, 1, n, api.ErrNil)
		}
	}
	if !slices.Equal(all(s), before) {
		t.Error("changed", all(s))
	}
}

func TestP112New(t *testing.T) {
	for app := 1; app <= 7; app++ {
		for _, sender := range []int{0, 1, 9, 511, -1, -3, math.MinInt, math.MaxInt} {
			s, other := kinds(t), kinds(t)
			c := begin(t, s, app, sender)
			want := secret(t, other, app, sender, 0)
			if l := c.Has(); len(l) != 1 || !slices.Equal(s.Dag(l[0]), other.Dag(want)) || s.Len() != other.Len() {
				t.Fatal(app, sender, l, all(s))
			}
			if k, e := c.Take(0); e != api.OK || k != key(t, s, app, sender, 0) {
				t.Fatal(app, sender, k, e)
			}
		}
	}
}

func TestP112Wrong(t *testing.T) {
	s := kinds(t)
	refused := func(s *term.Store, app int, want api.Errno) {
		t.Helper()
		many := s.Len()
		for _, sender := range append(wild, 0, 9) {
			if c, e := chain.New(s, app, sender); c != nil || e != want || s.Len() != many {
				t.Error(app, sender, c, e, "not", want)
			}
		}
	}
	for _, app := range append(wild, 0, 8, 9) {
		refused(s, app, api.ErrArg)
		refused(term.New(), app, api.ErrArg)
	}
	for _, none := range lost() {
		for _, app := range append(wild, 0, 1) {
			refused(none, app, api.ErrNil)
		}
	}
}

// take is a call of Take, and what is to come of it: the key of that number, or an error.
type take struct {
	n int
	e api.Errno
}

// play takes one key after the other.
func play(t *testing.T, s *term.Store, c *chain.Chain, app, sender int, l ...take) {
	t.Helper()
	for i, x := range l {
		k, e := c.Take(x.n)
		want := 0
		if x.e == api.OK {
			want = key(t, s, app, sender, x.n)
		}
		if k != want || e != x.e {
			t.Fatalf("%d: Take(%d) = %d, %v, not %d, %v", i, x.n, k, e, want, x.e)
		}
	}
}

// has holds what a chain has against the keys of some numbers and the secret of the next one.
func has(t *testing.T, s *term.Store, c *chain.Chain, app, sender, next int, left ...int) {
	t.Helper()
	var want []int
	for _, n := range left {
		want = append(want, key(t, s, app, sender, n))
	}
	want = append(want, secret(t, s, app, sender, next))
	if got := c.Has(); !slices.Equal(got, want) {
		t.Fatal("Has", got, "not", want)
	}
}

// TestP113Example is the chapter's.
func TestP113Example(t *testing.T) {
	s := term.New()
	put(t, s, random(0))
	c := begin(t, s, 1, 9)
	play(t, s, c, 1, 9, take{0, 0}, take{0, api.ErrStale}, take{3, 0}, take{1, 0})
	has(t, s, c, 1, 9, 4, 2)
	play(t, s, c, 1, 9, take{-1, api.ErrArg}, take{68, api.ErrLimit}, take{67, 0})
}

func TestP113InOrder(t *testing.T) {
	s := kinds(t)
	c := begin(t, s, 4, 2)
	for n := range 300 {
		has(t, s, c, 4, 2, n)
		play(t, s, c, 4, 2, take{n, 0}, take{n, api.ErrStale}, take{0, api.ErrStale}, take{n / 2, api.ErrStale})
	}
	has(t, s, c, 4, 2, 300)
}

func TestP113Backwards(t *testing.T) {
	s := kinds(t)
	c := begin(t, s, 4, 2)
	play(t, s, c, 4, 2, take{64, 0})
	for n := 63; n >= 0; n-- {
		play(t, s, c, 4, 2, take{64, api.ErrStale}, take{n + 1, api.ErrStale}, take{n, 0}, take{n, api.ErrStale})
	}
	has(t, s, c, 4, 2, 65)
}

// upTo are the numbers from first to last, but for some.
func upTo(first, last int, but ...int) []int {
	var l []int
	for n := first; n <= last; n++ {
		if !slices.Contains(but, n) {
			l = append(l, n)
		}
	}
	return l
}

func TestP113Skip(t *testing.T) {
	s := kinds(t)
	c := begin(t, s, 1, 0)
	for _, n := range []int{65, 66, 1 << 20, 1 << 32, math.MaxInt - 1, math.MaxInt} {
		play(t, s, c, 1, 0, take{n, api.ErrLimit})
	}
	has(t, s, c, 1, 0, 0)
	play(t, s, c, 1, 0, take{64, 0}) // 64 are left
	has(t, s, c, 1, 0, 65, upTo(0, 63)...)
	play(t, s, c, 1, 0, take{66, api.ErrLimit}, take{math.MaxInt, api.ErrLimit}, take{65, 0}, take{67, api.ErrLimit}, take{66, 0})
	has(t, s, c, 1, 0, 67, upTo(0, 63)...)
	play(t, s, c, 1, 0, take{30, 0}, take{69, api.ErrLimit}, take{68, 0}, take{70, api.ErrLimit}, take{69, 0}) // 67 in place of 30
	has(t, s, c, 1, 0, 70, append(upTo(0, 63, 30), 67)...)
	play(t, s, c, 1, 0, take{67, 0}, take{67, api.ErrStale}, take{0, 0}, take{63, 0}, take{74, api.ErrLimit}, take{73, 0})
	has(t, s, c, 1, 0, 74, append(upTo(1, 62, 30), 70, 71, 72)...)
	play(t, s, c, 1, 0, take{70, 0}, take{1, 0}, take{1, api.ErrStale}, take{73, api.ErrStale}, take{69, api.ErrStale}, take{76, 0})
}

// TestP113Far: a chain goes on beyond the last number that Key takes.
func TestP113Far(t *testing.T) {
	s := kinds(t)
	c := begin(t, s, 1, 0)
	far := api.MaxKnown + 70
	x := secret(t, s, 1, 0, 0)
	for n := range far {
		k, e := c.Take(n)
		if e != api.OK || k != put(t, s, kdf(11, x, 0)) {
			t.Fatal(n, k, e)
		}
		x = put(t, s, kdf(10, x, 0))
	}
	if l := c.Has(); !slices.Equal(l, []int{x}) {
		t.Error(l, x)
	}
	play(t, s, c, 1, 0, take{far + 65, api.ErrLimit}, take{far + 64, 0}, take{far, 0}, take{far - 1, api.ErrStale})
}

// TestP113MakesNoMore: of what is made by Take, nothing is but the keys up to the one that is asked for, and the secrets up to the next one.
func TestP113MakesNoMore(t *testing.T) {
	s := term.New()
	put(t, s, random(0))
	c := begin(t, s, 1, 9)
	want := []api.Term{random(0), data(9), kdf(9, 1, 2)}
	if !slices.Equal(all(s), want) {
		t.Fatal(all(s))
	}
	c.Take(1)
	made := all(s)
	for _, x := range made {
		if !slices.Contains(append(want, kdf(11, 3, 0)), x) && x.N != 10 && x.N != 11 {
			t.Error(x)
		}
	}
	if len(made) != 7 {
		t.Error(made)
	}
	for _, n := range []int{-1, 0, 0, 1, 67, 68, math.MaxInt} {
		c.Take(n)
		c.Has()
	}
	if s.Len() != 7 {
		t.Error(all(s))
	}
}

func TestP113Wrong(t *testing.T) {
	s := kinds(t)
	c := begin(t, s, 1, 0)
	play(t, s, c, 1, 0, take{3, 0})
	many, l := s.Len(), c.Has()
	for _, n := range []int{math.MinInt, math.MinInt + 1, -1 << 32, -65, -2, -1} {
		play(t, s, c, 1, 0, take{n, api.ErrArg})
	}
	for _, n := range wild {
		if k, e := c.Take(n); k != 0 || (e != api.ErrArg && e != api.ErrLimit) {
			t.Error(n, k, e)
		}
	}
	if s.Len() != many || !slices.Equal(c.Has(), l) {
		t.Error("changed", s.Len(), c.Has())
	}
	for _, none := range []*chain.Chain{nil, {}} {
		for _, n := range append(wild, 0, 1) {
			if k, e := none.Take(n); k != 0 || e != api.ErrNil {
				t.Error(n, k, e)
			}
			if l := none.Has(); len(l) != 0 {
				t.Error(n, l)
			}
		}
	}
}
