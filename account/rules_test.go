package account_test

import (
	"slices"
	"testing"

	"phratry/account"
	"phratry/api"
	"phratry/term"
)

// roomy is a list with room to spare, filled with what nobody may touch.
func roomy[T any](l []T, filler T) []T {
	long := append(slices.Clone(l), slices.Repeat([]T{filler}, 9)...)
	return long[:len(l)]
}

func TestR4ListsStay(t *testing.T) {
	x := dice(4)
	for range 500 {
		s := kinds(t)
		adds, removes := x.change(s)
		adds, removes = roomy(adds, api.Add{Member: -9, Pub: -9}), roomy(removes, -9)
		a, r := slices.Clone(adds[:cap(adds)]), slices.Clone(removes[:cap(removes)])
		digest(t, s, adds, removes)
		if !slices.Equal(adds[:cap(adds)], a) || !slices.Equal(removes[:cap(removes)], r) {
			t.Fatal(adds, removes)
		}
	}
}

// TestR1AnyNumbers: no call panics, whatever it is given; with an error there is nothing else, and nothing has changed.
func TestR1AnyNumbers(t *testing.T) {
	x := dice(1)
	any := func() int {
		if x.roll(3) == 0 {
			return wild[x.roll(len(wild))]
		}
		return x.roll(12) - 2
	}
	for range 20000 {
		s := kinds(t)
		adds, removes := x.change(s)
		if x.roll(2) == 0 {
			adds = append(adds, api.Add{Member: any(), Epoch: any(), Pub: any()})
			removes = append(removes, any())
		}
		for i, call := range []func() (int, api.Errno){
			func() (int, api.Errno) { return account.Digest(s, adds, removes) },
			func() (int, api.Errno) { return account.Seed(s, any(), any(), any(), any(), any()) },
			func() (int, api.Errno) { return account.Own(s, any()) },
			func() (int, api.Errno) {
				key, pub, e := account.Card(s, any())
				if (e == api.OK) != (key != 0) {
					t.Fatal(key, pub, e)
				}
				return pub, e
			},
		} {
			before := s.Len()
			n, e := call()
			if (e == api.OK) != (n != 0) || e != api.OK && (e != api.ErrArg || s.Len() != before) {
				t.Fatal(i, n, e, s.Len()-before)
			}
		}
	}
}

// fill leaves a store so much room.
func fill(t *testing.T, s *term.Store, room int) {
	t.Helper()
	for s.Len() < api.MaxTerms-room {
		put(t, s, random(int64(1<<40+s.Len())))
	}
}

// brink tries a call on a store that is filled up: with room for all that it makes it goes; with less it is ErrLimit, and changes nothing.
func brink(t *testing.T, setup func(s *term.Store), need int, call func(s *term.Store) api.Errno) {
	t.Helper()
	small := term.New()
	setup(small)
	many := small.Len()
	if e := call(small); e != api.OK || small.Len() != many+need {
		t.Fatal("in a small store", e, small.Len()-many)
	}
	s := term.New()
	setup(s)
	last := need
	for _, room := range []int{need - 1, need - 2, need - 3, need / 2, 4, 3, 2, 1, 0} {
		if room < 0 || room >= last {
			continue
		}
		last = room
		fill(t, s, room)
		if e := call(s); e != api.ErrLimit || s.Len() != api.MaxTerms-room {
			t.Fatal("room", room, "of", need, e, api.MaxTerms-s.Len())
		}
	}
	s = term.New()
	setup(s)
	fill(t, s, need)
	if e := call(s); e != api.OK || s.Len() != api.MaxTerms {
		t.Fatal("just enough", e, s.Len())
	}
	if e := call(s); e != api.OK {
		t.Fatal("again, without room", e)
	}
}

func two(t *testing.T, s *term.Store) {
	put(t, s, random(1))
	put(t, s, random(2))
}

// alone is the error of a call, which must have nothing beside it.
func alone(t *testing.T, n int, e api.Errno) api.Errno {
	t.Helper()
	if (e == api.OK) != (n != 0) {
		t.Error(n, e)
	}
	return e
}

// TestLimitDigest: the most come and go. How many do is the same number twice, all others are there once: 25 data, 33 pairs, the hash.
func TestLimitDigest(t *testing.T) {
	t.Parallel()
	setup := func(s *term.Store) {
		for n := range 7 {
			put(t, s, random(int64(n)))
		}
	}
	adds, removes := full(8, 8)
	brink(t, setup, 25+33+1, func(s *term.Store) api.Errno {
		n, e := account.Digest(s, adds, removes)
		// What may not be is told ahead of the room.
		if n, e := account.Digest(s, []api.Add{{Member: 5000, Pub: 0}}, nil); n != 0 || e != api.ErrArg {
			t.Error(n, e)
		}
		return alone(t, n, e)
	})
}

// TestLimitDigestLess: 8 come in, 7 go out: no number is there twice.
func TestLimitDigestLess(t *testing.T) {
	t.Parallel()
	setup := func(s *term.Store) {
		for n := range 7 {
			put(t, s, random(int64(n)))
		}
	}
	adds, removes := full(8, 7)
	brink(t, setup, 25+32+1, func(s *term.Store) api.Errno {
		n, e := account.Digest(s, adds, removes)
		return alone(t, n, e)
	})
}

// TestLimitDigestThere: that of one who comes in is there: another one who goes out beside needs but new pairs, and the hash.
func TestLimitDigestThere(t *testing.T) {
	t.Parallel()
	adds := []api.Add{{Member: 1, Epoch: 2, Pub: 1}}
	setup := func(s *term.Store) {
		two(t, s)
		digest(t, s, adds, []int{1})
	}
	brink(t, setup, 6, func(s *term.Store) api.Errno {
		n, e := account.Digest(s, adds, []int{2})
		return alone(t, n, e)
	})
}

// TestLimitDigestNobody: data of 0, a pair, the hash.
func TestLimitDigestNobody(t *testing.T) {
	t.Parallel()
	brink(t, func(s *term.Store) { two(t, s) }, 3, func(s *term.Store) api.Errno {
		n, e := account.Digest(s, nil, nil)
		return alone(t, n, e)
	})
}

func TestLimitSeed(t *testing.T) {
	t.Parallel()
	brink(t, func(s *term.Store) { two(t, s) }, 7, func(s *term.Store) api.Errno {
		n, e := account.Seed(s, 1, 30, 31, 32, 2)
		if n, e := account.Seed(s, 1, 33, 34, 35, 0); n != 0 || e != api.ErrArg {
			t.Error(n, e)
		}
		return alone(t, n, e)
	})
}

// TestLimitSeedThere: that of another group is there, and so is the data of this one: a pair and the key are new.
func TestLimitSeedThere(t *testing.T) {
	t.Parallel()
	setup := func(s *term.Store) {
		two(t, s)
		seed(t, s, 1, 30, 31, 32, 2)
	}
	brink(t, setup, 2, func(s *term.Store) api.Errno {
		n, e := account.Seed(s, 1, 31, 31, 32, 2)
		return alone(t, n, e)
	})
}

// TestLimitFirstData: where but the first numbers of a list are not there, and have no room, it is ErrLimit all the same.
func TestLimitFirstData(t *testing.T) {
	t.Parallel()
	setup := func(s *term.Store) {
		two(t, s)
		put(t, s, data(31))
		put(t, s, data(32))
		put(t, s, data(1))
	}
	brink(t, setup, 1+3+1, func(s *term.Store) api.Errno {
		n, e := account.Seed(s, 1, 30, 31, 32, 2)
		return alone(t, n, e)
	})
	brink(t, setup, 1+2+1, func(s *term.Store) api.Errno {
		n, e := account.Digest(s, nil, []int{31})
		return alone(t, n, e)
	})
}

func TestLimitCard(t *testing.T) {
	t.Parallel()
	brink(t, func(s *term.Store) { two(t, s) }, 2, func(s *term.Store) api.Errno {
		key, pub, e := account.Card(s, 1)
		alone(t, key, e)
		if key, pub, e := account.Card(s, 0); key != 0 || pub != 0 || e != api.ErrArg {
			t.Error(key, pub, e)
		}
		return alone(t, pub, e)
	})
}

// TestLimitCardThere: the secret is there, its public key is not.
func TestLimitCardThere(t *testing.T) {
	t.Parallel()
	setup := func(s *term.Store) {
		two(t, s)
		put(t, s, kdf(13, 1, 0))
	}
	brink(t, setup, 1, func(s *term.Store) api.Errno {
		key, pub, e := account.Card(s, 1)
		alone(t, key, e)
		return alone(t, pub, e)
	})
}

func TestLimitOwn(t *testing.T) {
	t.Parallel()
	brink(t, func(s *term.Store) { two(t, s) }, 1, func(s *term.Store) api.Errno {
		n, e := account.Own(s, 2)
		if n, e := account.Own(s, 0); n != 0 || e != api.ErrArg {
			t.Error(n, e)
		}
		return alone(t, n, e)
	})
}
