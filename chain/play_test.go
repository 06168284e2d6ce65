package chain_test

import (
	"slices"
	"testing"

	"phratry/api"
	"phratry/chain"
	"phratry/deduce"
	"phratry/term"
)

// dice tells the same row of numbers at every run.
type dice uint64

func (x *dice) roll(n int) int {
	*x = *x*6364136223846793005 + 1442695040888963407
	return int(uint64(*x) >> 33 % uint64(n))
}

// plain is a chain by the chapter's words: the numbers that are left, rising, and the next one.
type plain struct {
	left []int
	next int
}

func (p *plain) take(n int) api.Errno {
	switch i := slices.Index(p.left, n); {
	case n < 0:
		return api.ErrArg
	case i >= 0:
		p.left = slices.Delete(p.left, i, i+1)
		return api.OK
	case n < p.next:
		return api.ErrStale
	case len(p.left)+n-p.next > 64:
		return api.ErrLimit
	}
	for ; p.next < n; p.next++ {
		p.left = append(p.left, p.next)
	}
	p.next++
	return api.OK
}

// number is one that may be asked for: mostly near the next one, at times one that is left, or far off.
func (x *dice) number(p plain) int {
	switch x.roll(6) {
	case 0:
		return p.next
	case 1:
		return p.next + x.roll(4)
	case 2:
		return p.next + x.roll(80)
	case 3:
		return p.next + 64 - len(p.left) + x.roll(3) - 1
	case 4:
		if len(p.left) > 0 {
			return p.left[x.roll(len(p.left))]
		}
	}
	return x.roll(p.next+2) - 1
}

// TestP113AnyPlay holds two chains of a store against plain ones, turn by turn.
func TestP113AnyPlay(t *testing.T) {
	x := dice(113)
	for range 40 {
		s := kinds(t)
		app := 1 + x.roll(7)
		senders := [2]int{x.roll(3), 3 + x.roll(3)}
		chains := [2]*chain.Chain{begin(t, s, app, senders[0]), begin(t, s, app, senders[1])}
		var plains [2]plain
		for range 60 {
			i := x.roll(2)
			n := x.number(plains[i])
			play(t, s, chains[i], app, senders[i], take{n, plains[i].take(n)})
			has(t, s, chains[i], app, senders[i], plains[i].next, plains[i].left...)
		}
	}
}

// TestP115OnceAndKeys: whatever is asked, no key is answered twice, and each is Key's.
func TestP115OnceAndKeys(t *testing.T) {
	x := dice(115)
	for range 40 {
		s := kinds(t)
		c := begin(t, s, 1, 9)
		var p plain
		var seen []int
		for range 200 {
			n := x.number(p)
			k, e := c.Take(n)
			if p.take(n) != e || (e == api.OK) != (k != 0) {
				t.Fatal(n, k, e)
			}
			if e != api.OK {
				continue
			}
			if want, e := chain.Key(s, 1, 9, n); e != api.OK || k != want || slices.Contains(seen, k) {
				t.Fatal(n, k, want, e)
			}
			seen = append(seen, k)
		}
	}
}

// follows: does a term follow from known ones?
func follows(t *testing.T, s *term.Store, n int, known ...int) bool {
	t.Helper()
	ok, e := deduce.Follows(s, known, n)
	if e != api.OK {
		t.Fatal(n, known, e)
	}
	return ok
}

// TestP115WhatFollows: from what a chain has follow all keys that it can still answer, and none that it has answered;
// these are of no help either among each other.
func TestP115WhatFollows(t *testing.T) {
	x := dice(51)
	for range 40 {
		s := term.New()
		app := put(t, s, random(5))
		sender := x.roll(9)
		c := begin(t, s, app, sender)
		var p plain
		for range 1 + x.roll(12) {
			n := x.number(p)
			if _, e := c.Take(n); e != p.take(n) {
				t.Fatal(n, e)
			}
		}
		known := c.Has()
		for n := range p.next + 5 {
			k := key(t, s, app, sender, n)
			taken := n < p.next && !slices.Contains(p.left, n)
			if follows(t, s, k, known...) == taken {
				t.Fatal(n, p, "taken:", taken)
			}
			if n < p.next && follows(t, s, secret(t, s, app, sender, n), known...) {
				t.Fatal("the secret", n, p)
			}
			if !follows(t, s, k, app) {
				t.Fatal("of app", n)
			}
		}
		if follows(t, s, app, known...) {
			t.Fatal("app", p)
		}
	}
}

// TestP115KeysApart: from all keys of a sender but one, and all of another sender, that one does not follow.
func TestP115KeysApart(t *testing.T) {
	s := term.New()
	app := put(t, s, random(5))
	var keys [2][]int
	for sender := range keys {
		for n := range 8 {
			keys[sender] = append(keys[sender], key(t, s, app, sender, n))
		}
	}
	for i, k := range keys[0] {
		others := append(slices.Delete(slices.Clone(keys[0]), i, i+1), keys[1]...)
		if follows(t, s, k, others...) || follows(t, s, secret(t, s, app, 0, i), append(others, k)...) {
			t.Error(i)
		}
	}
	if follows(t, s, keys[0][0], secret(t, s, app, 1, 0)) || follows(t, s, app, secret(t, s, app, 0, 0)) {
		t.Error("a sender's first secret tells more than its own keys")
	}
}

// TestR5TwoStores: the same calls in a store that has its terms in another order make the same terms.
func TestR5TwoStores(t *testing.T) {
	tell := func(s *term.Store) (l [][]api.Term) {
		app := put(t, s, random(7))
		c := begin(t, s, app, 9)
		for _, n := range []int{3, 0, 7, 5, 8} {
			k, e := c.Take(n)
			if e != api.OK {
				t.Fatal(n, e)
			}
			l = append(l, s.Dag(k))
		}
		for _, n := range c.Has() {
			l = append(l, s.Dag(n))
		}
		return l
	}
	a, b := term.New(), term.New()
	for n := range 40 {
		put(t, b, random(int64(20-n%20)))
		put(t, b, data(int64(20-n)))
	}
	for _, n := range []int{6, 2, 4} {
		key(t, b, put(t, b, random(7)), 9, n)
	}
	if !slices.EqualFunc(tell(a), tell(b), slices.Equal) {
		t.Error("two stores, two answers")
	}
}
