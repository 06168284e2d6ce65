package hold_test

import (
	"math"
	"slices"
	"testing"

	"phratry/api"
	"phratry/hold"
	"phratry/term"
)

func random(n int64) api.Term { return api.Term{Kind: api.TmRand, N: n} }

func pair(a, b int) api.Term { return api.Term{Kind: api.TmPair, A: a, B: b} }

// storeOf has so many terms, all of them drawn.
func storeOf(t *testing.T, many int) *term.Store {
	t.Helper()
	s := term.New()
	for n := range many {
		if _, e := s.Make(random(int64(n))); e != api.OK {
			t.Fatal(n, e)
		}
	}
	return s
}

func TestMissing(t *testing.T) {
	if !hold.Missing(nil) || !hold.Missing(&term.Store{}) {
		t.Error("a store that is not there")
	}
	if hold.Missing(term.New()) || hold.Missing(storeOf(t, 3)) {
		t.Error("a store that is there")
	}
}

func TestHas(t *testing.T) {
	s := storeOf(t, 3)
	for n := -2; n <= 6; n++ {
		if hold.Has(s, n) != (n >= 1 && n <= 3) {
			t.Error(n)
		}
	}
	for _, n := range []int{math.MinInt, -1 << 32, 1 << 32, 1<<32 + 1, math.MaxInt} {
		if hold.Has(s, n) {
			t.Error(n)
		}
	}
	if hold.Has(nil, 1) || hold.Has(&term.Store{}, 1) || hold.Has(term.New(), 1) {
		t.Error("a store without terms")
	}
}

func TestTree(t *testing.T) {
	s := storeOf(t, 3)
	nodes := func(l ...api.Node) api.Tree { return api.Tree{Nodes: l} }
	leaf := func(pub, member int) api.Node { return api.Node{Pub: pub, Member: member} }
	for _, c := range []struct {
		t    api.Tree
		held bool
	}{
		{api.Tree{}, true},
		{nodes(leaf(1, 5)), true},
		{nodes(leaf(3, 5)), true},
		{nodes(leaf(4, 5)), false},
		{nodes(leaf(-1, 5)), false},
		{nodes(api.Node{}), false},
		{nodes(leaf(1, 5), leaf(2, 6)), false},
		{nodes(leaf(1, 5), api.Node{}, leaf(2, 6)), true},
		{nodes(leaf(1, 5), leaf(3, 0), leaf(2, 6)), true},
		{nodes(leaf(1, 5), leaf(4, 0), leaf(2, 6)), false},
		{nodes(leaf(1, 5), leaf(3, 0), leaf(math.MaxInt, 6)), false},
		{nodes(leaf(1, 5), leaf(3, 1), leaf(2, 6)), false},
	} {
		if hold.Tree(s, c.t) != c.held {
			t.Error(c.t, !c.held)
		}
	}
}

// row makes pairs one in the other, each twice, and tells all numbers.
func row(put hold.Maker, many int, seen *[][]int) ([]int, api.Errno) {
	l := []int{1}
	for range many {
		last := l[len(l)-1]
		for range 2 {
			n, e := put(pair(last, 2))
			if e != api.OK {
				return nil, e
			}
			l = append(l, n)
		}
	}
	*seen = append(*seen, l)
	return l, api.OK
}

// fill leaves a store so much room.
func fill(s *term.Store, room int) {
	for s.Len() < api.MaxTerms-room {
		s.Make(random(int64(s.Len())))
	}
}

const most, many = 7, 5

// started is a store that has the first ones of a row already.
func started(t *testing.T, there int) *term.Store {
	t.Helper()
	s := storeOf(t, 2)
	row(s.Make, there, new([][]int))
	return s
}

// TestAllOrNoneShort: with less room than all that is made needs, nothing is.
func TestAllOrNoneShort(t *testing.T) {
	t.Parallel()
	for _, there := range []int{0, 3} {
		s := started(t, there)
		for room := many - there - 1; room >= 0; room-- {
			fill(s, room)
			l, e := hold.AllOrNone(s, most, func(put hold.Maker) ([]int, api.Errno) { return row(put, many, new([][]int)) })
			if e != api.ErrLimit || l != nil || s.Len() != api.MaxTerms-room {
				t.Error(there, room, l, e)
			}
		}
	}
}

// TestAllOrNoneEnough: with room for all, it is made; and nobody can tell by the numbers whether it was tried first.
func TestAllOrNoneEnough(t *testing.T) {
	t.Parallel()
	for _, c := range []struct{ there, room int }{{0, many}, {1, many}, {1, most}, {many, 0}, {many, 2}} {
		s := started(t, c.there)
		fill(s, c.room)
		var seen [][]int
		l, e := hold.AllOrNone(s, most, func(put hold.Maker) ([]int, api.Errno) { return row(put, many, &seen) })
		if e != api.OK || len(l) != 2*many+1 || s.Len() != api.MaxTerms-c.room+many-c.there {
			t.Error(c, l, e)
		}
		for _, x := range seen {
			if !slices.Equal(x, l) {
				t.Error(c, seen)
			}
		}
	}
}

// rowOf is the row, made in a store that is handed in.
func rowOf(seen *[][]int) func(*term.Store) ([]int, api.Errno) {
	return func(s *term.Store) ([]int, api.Errno) { return row(s.Make, many, seen) }
}

// TestWholeShort: with less room than all that is made needs, nothing is.
func TestWholeShort(t *testing.T) {
	t.Parallel()
	for _, there := range []int{0, 3} {
		s := started(t, there)
		for room := many - there - 1; room >= 0; room-- {
			fill(s, room)
			l, e := hold.Whole(s, most, rowOf(new([][]int)))
			if e != api.ErrLimit || l != nil || s.Len() != api.MaxTerms-room {
				t.Error(there, room, l, e)
			}
		}
	}
}

// TestWholeEnough: with room for all, it is made; and nobody can tell by the numbers whether it was tried first.
func TestWholeEnough(t *testing.T) {
	t.Parallel()
	for _, c := range []struct{ there, room, calls int }{{0, many, 2}, {0, most, 1}, {1, most - 1, 2}, {many, 0, 1}, {many, 2, 2}} {
		s := started(t, c.there)
		fill(s, c.room)
		var seen [][]int
		l, e := hold.Whole(s, most, rowOf(&seen))
		if e != api.OK || len(l) != 2*many+1 || s.Len() != api.MaxTerms-c.room+many-c.there || len(seen) != c.calls {
			t.Error(c, l, e, len(seen))
		}
		for _, x := range seen {
			if !slices.Equal(x, l) {
				t.Error(c, seen)
			}
		}
	}
}

// TestWholeRefused: an error that is not about room is answered as it is.
func TestWholeRefused(t *testing.T) {
	s := storeOf(t, 2)
	n, e := hold.Whole(s, most, func(*term.Store) (int, api.Errno) { return 0, api.ErrKey })
	if n != 0 || e != api.ErrKey || s.Len() != 2 {
		t.Error(n, e, s.Len())
	}
}
