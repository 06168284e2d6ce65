package chain_test

import (
	"slices"
	"testing"

	"phratry/api"
	"phratry/chain"
	"phratry/term"
)

// TestR1AnyNumbers: no call panics, whatever it is given, and with an error there is nothing else.
func TestR1AnyNumbers(t *testing.T) {
	x := dice(1)
	any := func() int {
		if x.roll(3) == 0 {
			return wild[x.roll(len(wild))]
		}
		return x.roll(80) - 5
	}
	for range 3000 {
		s := kinds(t)
		if k, e := chain.Key(s, any()%16, any(), any()); (e == api.OK) != (k != 0) {
			t.Fatal(k, e)
		}
		c, e := chain.New(s, any()%16, any())
		if (e == api.OK) != (c != nil) {
			t.Fatal(c, e)
		}
		for range 10 {
			if k, e := c.Take(any()); (e == api.OK) != (k != 0) {
				t.Fatal(k, e)
			}
			if l := c.Has(); (len(l) == 0) != (c == nil) {
				t.Fatal(l)
			}
		}
	}
}

// TestR4HasIsNewMemory: who writes over an answer, its spare room too, changes no other one and no chain.
func TestR4HasIsNewMemory(t *testing.T) {
	s := kinds(t)
	for skip := range 20 {
		c := begin(t, s, 1, skip)
		c.Take(skip)
		a, b := c.Has(), c.Has()
		want := slices.Clone(b)
		whole := a[:cap(a)]
		for i := range whole {
			whole[i] = -9
		}
		if !slices.Equal(b, want) || !slices.Equal(c.Has(), want) {
			t.Fatal(skip, b, c.Has())
		}
		a = append(c.Has(), 5)
		c.Take(skip + 1)
		if l := c.Has(); len(l) != len(want) || !slices.Equal(b, want) || a[len(a)-1] != 5 {
			t.Fatal(skip, l)
		}
	}
}

// TestR5Apart: two chains of one sender know nothing of each other.
func TestR5Apart(t *testing.T) {
	s := kinds(t)
	a, b := begin(t, s, 1, 9), begin(t, s, 1, 9)
	play(t, s, a, 1, 9, take{2, 0}, take{0, 0})
	has(t, s, b, 1, 9, 0)
	play(t, s, b, 1, 9, take{0, 0}, take{1, 0}, take{2, 0}, take{70, api.ErrLimit})
	has(t, s, a, 1, 9, 3, 1)
	play(t, s, a, 1, 9, take{1, 0}, take{0, api.ErrStale})
}

// fill leaves a store so much room.
func fill(t *testing.T, s *term.Store, room int) {
	t.Helper()
	for s.Len() < api.MaxTerms-room {
		put(t, s, random(int64(1<<40+s.Len())))
	}
}

// brink tries a call on a store that is filled up: with room for all that it makes it goes; with less it is ErrLimit, and changes nothing.
func brink(t *testing.T, need int, setup func(s *term.Store), call func(s *term.Store) api.Errno) {
	t.Helper()
	small := term.New()
	setup(small)
	many := small.Len()
	if e := call(small); e != api.OK || small.Len() != many+need {
		t.Fatal("in a small store", e, small.Len()-many)
	}
	s := term.New()
	setup(s)
	last := need
	for _, room := range []int{need - 1, need - 2, need - 3, need / 2, 4, 3, 2, 1, 0} {
		if room < 0 || room >= last {
			continue
		}
		last = room
		fill(t, s, room)
		if e := call(s); e != api.ErrLimit || s.Len() != api.MaxTerms-room {
			t.Fatal("room", room, "of", need, e, api.MaxTerms-s.Len())
		}
	}
	s = term.New()
	setup(s)
	fill(t, s, need)
	if e := call(s); e != api.OK || s.Len() != api.MaxTerms {
		t.Fatal("just enough", e, s.Len())
	}
	if e := call(s); e != api.OK {
		t.Fatal("again, without room", e)
	}
}

// callKey is Key(1, 9, n): the error, with nothing beside it.
func callKey(t *testing.T, n int) func(s *term.Store) api.Errno {
	return func(s *term.Store) api.Errno {
		t.Helper()
		k, e := chain.Key(s, 1, 9, n)
		if (e == api.OK) != (k != 0) {
			t.Error(k, e)
		}
		// What may not be is told ahead of the room.
		if _, e := chain.Key(s, 0, 9, n); e != api.ErrArg {
			t.Error(e)
		}
		return e
	}
}

func one(t *testing.T) func(*term.Store) {
	return func(s *term.Store) { put(t, s, random(0)) }
}

func TestLimitKey(t *testing.T) {
	t.Parallel()
	brink(t, 3, one(t), callKey(t, 0))
	brink(t, 8, one(t), callKey(t, 5))
}

func TestLimitKeyFar(t *testing.T) {
	t.Parallel()
	brink(t, api.MaxKnown+3, one(t), callKey(t, api.MaxKnown))
}

// TestLimitKeyThere: some of the secrets are there already.
func TestLimitKeyThere(t *testing.T) {
	t.Parallel()
	brink(t, 5, func(s *term.Store) { one(t)(s); key(t, s, 1, 9, 6) }, callKey(t, 10))
}

func TestLimitNew(t *testing.T) {
	t.Parallel()
	call := func(s *term.Store) api.Errno {
		c, e := chain.New(s, 1, 9)
		if (e == api.OK) != (c != nil) {
			t.Error(c, e)
		}
		return e
	}
	brink(t, 2, one(t), call)
	brink(t, 1, func(s *term.Store) { one(t)(s); put(t, s, data(9)) }, call)
}

// started is a chain of the sender 9 of which some keys were taken.
func started(t *testing.T, s *term.Store, setup func(*term.Store), taken []int) *chain.Chain {
	t.Helper()
	setup(s)
	c := begin(t, s, 1, 9)
	for _, n := range taken {
		if _, e := c.Take(n); e != api.OK {
			t.Fatal(n, e)
		}
	}
	return c
}

// brinkTake tries Take(n) of a chain whose store is filled up: with room for all that it makes it goes; with less it is ErrLimit,
// and the store and the chain are as they were. What is left needs no room.
func brinkTake(t *testing.T, n, need int, setup func(*term.Store), taken ...int) {
	t.Helper()
	s := term.New()
	c := started(t, s, setup, taken)
	before := c.Has()
	for _, room := range []int{need - 1, need / 2, 1, 0} {
		fill(t, s, room)
		if k, e := c.Take(n); k != 0 || e != api.ErrLimit || s.Len() != api.MaxTerms-room || !slices.Equal(c.Has(), before) {
			t.Fatal("room", room, "of", need, k, e, s.Len(), c.Has())
		}
	}
	for i, k := range before[:len(before)-1] {
		if got, e := c.Take(i); got != k || e != api.OK {
			t.Fatal("left", i, got, e)
		}
	}
	s = term.New()
	c = started(t, s, setup, taken)
	fill(t, s, need)
	if k, e := c.Take(n); k == 0 || e != api.OK || s.Len() != api.MaxTerms {
		t.Fatal("just enough", k, e, s.Len())
	}
}

func TestLimitTakeOne(t *testing.T) {
	t.Parallel()
	brinkTake(t, 0, 2, one(t))
}

func TestLimitTakeSkip(t *testing.T) {
	t.Parallel()
	brinkTake(t, 64, 130, one(t))
}

func TestLimitTakeLeft(t *testing.T) {
	t.Parallel()
	brinkTake(t, 10, 14, one(t), 3)
}

// TestLimitTakeThere: somebody else has made some of the secrets, and a key.
func TestLimitTakeThere(t *testing.T) {
	t.Parallel()
	brinkTake(t, 10, 22-6, func(s *term.Store) { one(t)(s); key(t, s, 1, 9, 5) })
}
