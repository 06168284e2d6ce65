package account_test

import (
	"math"
	"slices"
	"testing"

	"phratry/account"
	"phratry/api"
	"phratry/term"
)

// wild are numbers at the edges of int, none of them a term of a small store.
var wild = []int{math.MinInt, math.MinInt + 1, -1 << 32, -8, -2, -1, 1 << 20, 1<<20 + 1, 1 << 32, 1<<32 + 1, math.MaxInt - 1, math.MaxInt}

func random(n int64) api.Term            { return api.Term{Kind: api.TmRand, N: n} }
func data(n int64) api.Term              { return api.Term{Kind: api.TmData, N: n} }
func pair(a, b int) api.Term             { return api.Term{Kind: api.TmPair, A: a, B: b} }
func kdf(label int64, a, b int) api.Term { return api.Term{Kind: api.TmKdf, N: label, A: a, B: b} }
func public(a int) api.Term              { return api.Term{Kind: api.TmPub, A: a} }
func sealed(a, b int) api.Term           { return api.Term{Kind: api.TmSeal, A: a, B: b} }
func hash(a int) api.Term                { return api.Term{Kind: api.TmHash, A: a} }

// put makes a term that must go.
func put(t *testing.T, s *term.Store, x api.Term) int {
	t.Helper()
	n, e := s.Make(x)
	if e != api.OK {
		t.Fatal(x, e)
	}
	return n
}

// kinds is a store with a term of each kind, from 1 to 7.
func kinds(t *testing.T) *term.Store {
	t.Helper()
	s := term.New()
	for i, x := range []api.Term{random(7), data(-3), pair(1, 2), kdf(4, 1, 0), public(1), sealed(5, 3), hash(2)} {
		if put(t, s, x) != i+1 {
			t.Fatal(i)
		}
	}
	return s
}

// lost are stores that are not there.
func lost() []*term.Store { return []*term.Store{nil, {}} }

// all tells what a store has.
func all(s *term.Store) []api.Term {
	var l []api.Term
	for n := 1; n <= s.Len(); n++ {
		x, _ := s.Get(n)
		l = append(l, x)
	}
	return l
}

// comeIn is adds, of the member, the epoch and the Pub of each.
func comeIn(numbers ...int) (l []api.Add) {
	for x := range slices.Chunk(numbers, 3) {
		l = append(l, api.Add{Member: x[0], Epoch: x[1], Pub: x[2]})
	}
	return l
}

// noTerms are numbers of which kinds has no term.
func noTerms() []int { return append(slices.Clone(wild), 0, 8, 9) }

// digest, seed and own are calls that must go.
func digest(t *testing.T, s *term.Store, adds []api.Add, removes []int) int {
	t.Helper()
	n, e := account.Digest(s, adds, removes)
	if e != api.OK || n == 0 {
		t.Fatal(adds, removes, n, e)
	}
	return n
}

func seed(t *testing.T, s *term.Store, secret, group, epoch, device, digest int) int {
	t.Helper()
	n, e := account.Seed(s, secret, group, epoch, device, digest)
	if e != api.OK || n == 0 {
		t.Fatal(secret, group, epoch, device, digest, n, e)
	}
	return n
}

func own(t *testing.T, s *term.Store, secret int) int {
	t.Helper()
	n, e := account.Own(s, secret)
	if e != api.OK || n == 0 {
		t.Fatal(secret, n, e)
	}
	return n
}

func card(t *testing.T, s *term.Store, secret int) (key, pub int) {
	t.Helper()
	key, pub, e := account.Card(s, secret)
	if e != api.OK || key == 0 || pub == 0 {
		t.Fatal(secret, key, pub, e)
	}
	return key, pub
}

// TestP131Nobody is the chapter's example: the hash of the pair of data 0 and data 0.
func TestP131Nobody(t *testing.T) {
	for _, adds := range [][]api.Add{nil, {}} {
		for _, removes := range [][]int{nil, {}} {
			s := term.New()
			n := digest(t, s, adds, removes)
			if want := []api.Term{data(0), pair(1, 1), hash(2)}; !slices.Equal(s.Dag(n), want) || !slices.Equal(all(s), want) {
				t.Error(all(s))
			}
		}
	}
}

// TestP131TermByTerm writes a digest out: two come in, three go out.
func TestP131TermByTerm(t *testing.T) {
	s := term.New()
	put(t, s, random(0))
	put(t, s, public(1))
	n := digest(t, s, []api.Add{{Member: 40, Epoch: 50, Pub: 2}, {Member: 41, Epoch: 51, Pub: 1}}, []int{60, 61, 62})
	var told []api.Term
	x, _ := s.Get(n)
	if x.Kind != api.TmHash {
		t.Fatal(x)
	}
	for x, _ = s.Get(x.A); x.Kind == api.TmPair; x, _ = s.Get(x.B) {
		y, _ := s.Get(x.A)
		told = append(told, y)
	}
	told = append(told, x)
	want := []api.Term{
		data(2), data(40), data(50), public(1), data(41), data(51), random(0),
		data(3), data(60), data(61), data(62),
	}
	// 2 that were there, 9 data, 10 pairs, the hash.
	if !slices.Equal(told, want) || s.Len() != 22 {
		t.Error(told, s.Len())
	}
}

// TestP131OneOut: only one goes out, or only one comes in.
func TestP131OneOut(t *testing.T) {
	s := term.New()
	n := digest(t, s, nil, []int{-7})
	if want := []api.Term{data(0), data(1), data(-7), pair(2, 3), pair(1, 4), hash(5)}; !slices.Equal(s.Dag(n), want) {
		t.Error(s.Dag(n))
	}
	s = term.New()
	put(t, s, random(9))
	n = digest(t, s, []api.Add{{Member: -1, Epoch: -2, Pub: 1}}, nil)
	want := []api.Term{
		data(1), data(-1), data(-2), random(9), data(0),
		pair(4, 5), pair(3, 6), pair(2, 7), pair(1, 8), hash(9),
	}
	if !slices.Equal(s.Dag(n), want) {
		t.Error(s.Dag(n))
	}
}

// full is so many adds, and removes.
func full(adds, removes int) (a []api.Add, r []int) {
	for n := range adds {
		a = append(a, api.Add{Member: 100 + n, Epoch: 200 + n, Pub: 1 + n%7})
	}
	for n := range removes {
		r = append(r, 300+n)
	}
	return a, r
}

// TestP131Many: at most MaxLeaves come in, and as many go out; at one more of either it is ErrArg.
func TestP131Many(t *testing.T) {
	for adds := range 12 {
		for removes := range 12 {
			s := kinds(t)
			before := all(s)
			a, r := full(adds, removes)
			n, e := account.Digest(s, a, r)
			if adds <= 8 && removes <= 8 {
				if e != api.OK || n != s.Len() || s.Len() <= 7 {
					t.Error(adds, removes, n, e)
				}
			} else if n != 0 || e != api.ErrArg || !slices.Equal(all(s), before) {
				t.Error(adds, removes, n, e)
			}
		}
	}
	s := kinds(t)
	for _, many := range []int{17, 1 << 16} {
		if n, e := account.Digest(s, slices.Repeat([]api.Add{{Pub: 1}}, many), nil); n != 0 || e != api.ErrArg || s.Len() != 7 {
			t.Error(many, n, e)
		}
		if n, e := account.Digest(s, nil, make([]int, many)); n != 0 || e != api.ErrArg || s.Len() != 7 {
			t.Error(many, n, e)
		}
	}
}

// TestP131AnyNumbers: members, epochs and removes may be any number, also twice the same one; a Pub any term.
func TestP131AnyNumbers(t *testing.T) {
	for _, x := range append(slices.Clone(wild), 0, 1, 9) {
		for pub := 1; pub <= 7; pub++ {
			s, other := kinds(t), kinds(t)
			adds, removes := comeIn(x, 3, pub, x, x, pub, x, 3, pub), []int{x, 5, x}
			n := digest(t, s, adds, removes)
			want := plainDigest(t, other, adds, removes)
			if !slices.Equal(s.Dag(n), other.Dag(want)) || s.Len() != other.Len() {
				t.Fatal(x, pub, s.Dag(n))
			}
		}
	}
}

func TestP131Wrong(t *testing.T) {
	s := kinds(t)
	before := all(s)
	for _, bad := range noTerms() {
		for many := 1; many <= 8; many++ {
			for at := range many {
				a, r := full(many, at)
				a[at].Pub = bad
				if n, e := account.Digest(s, a, r); n != 0 || e != api.ErrArg {
					t.Error(bad, many, at, n, e)
				}
			}
		}
	}
	// A Pub of another store is no term of this one.
	if n, e := account.Digest(term.New(), []api.Add{{Pub: 1}}, nil); n != 0 || e != api.ErrArg {
		t.Error(n, e)
	}
	for _, none := range lost() {
		for _, many := range []int{0, 1, 8, 9} {
			a, r := full(many, many)
			if n, e := account.Digest(none, a, r); n != 0 || e != api.ErrNil {
				t.Error(many, n, e)
			}
		}
		if n, e := account.Digest(none, []api.Add{{Pub: -1}}, nil); n != 0 || e != api.ErrNil {
			t.Error(n, e)
		}
	}
	if !slices.Equal(all(s), before) {
		t.Error("changed", all(s))
	}
}

// TestP132TermByTerm writes a seed out.
func TestP132TermByTerm(t *testing.T) {
	s := term.New()
	put(t, s, random(1))
	put(t, s, hash(1))
	n := seed(t, s, 1, 30, 31, 32, 2)
	want := []api.Term{
		random(1), data(30), data(31), data(32), hash(1),
		pair(4, 5), pair(3, 6), pair(2, 7), kdf(12, 1, 8),
	}
	if !slices.Equal(s.Dag(n), want) || s.Len() != len(want) {
		t.Error(s.Dag(n), s.Len())
	}
}

func TestP132Seed(t *testing.T) {
	for secret := 1; secret <= 7; secret++ {
		for digest := 1; digest <= 7; digest++ {
			for i, x := range append(slices.Clone(wild), 0, 1, -3) {
				s, other := kinds(t), kinds(t)
				l := [3]int{4, 5, 6}
				l[i%3] = x
				n := seed(t, s, secret, l[0], l[1], l[2], digest)
				want := plainSeed(t, other, secret, l[0], l[1], l[2], digest)
				if !slices.Equal(s.Dag(n), other.Dag(want)) || s.Len() != other.Len() {
					t.Fatal(secret, digest, l, s.Dag(n))
				}
				if again := seed(t, s, secret, l[0], l[1], l[2], digest); again != n || s.Len() != other.Len() {
					t.Fatal("again", secret, digest, l, again)
				}
			}
		}
	}
}

func TestP132Wrong(t *testing.T) {
	s := kinds(t)
	before := all(s)
	refused := func(s *term.Store, secret, n, digest int, want api.Errno) {
		t.Helper()
		if n, e := account.Seed(s, secret, n, n, n, digest); n != 0 || e != want {
			t.Error(secret, digest, n, e)
		}
	}
	for _, bad := range noTerms() {
		refused(s, bad, 1, 1, api.ErrArg)
		refused(s, 1, 1, bad, api.ErrArg)
		refused(s, bad, bad, bad, api.ErrArg)
		refused(term.New(), 1, bad, 1, api.ErrArg)
		for _, none := range lost() {
			refused(none, bad, 1, 1, api.ErrNil)
			refused(none, 1, 1, bad, api.ErrNil)
			refused(none, 1, bad, 1, api.ErrNil)
		}
	}
	if !slices.Equal(all(s), before) {
		t.Error("changed", all(s))
	}
}

func TestP133Card(t *testing.T) {
	for secret := 1; secret <= 7; secret++ {
		s := kinds(t)
		key, pub := card(t, s, secret)
		x, _ := s.Get(key)
		y, _ := s.Get(pub)
		if x != kdf(13, secret, 0) || y != public(key) || s.Len() != 9 {
			t.Error(secret, x, y, s.Len())
		}
		if k, p := card(t, s, secret); k != key || p != pub || s.Len() != 9 {
			t.Error("again", secret, k, p)
		}
	}
}

func TestP133Own(t *testing.T) {
	for secret := 1; secret <= 7; secret++ {
		s := kinds(t)
		n := own(t, s, secret)
		if x, _ := s.Get(n); x != kdf(14, secret, 0) || s.Len() != 8 {
			t.Error(secret, x, s.Len())
		}
		if again := own(t, s, secret); again != n || s.Len() != 8 {
			t.Error("again", secret, again)
		}
	}
}

func TestP133Wrong(t *testing.T) {
	s := kinds(t)
	before := all(s)
	refused := func(s *term.Store, secret int, want api.Errno) {
		t.Helper()
		if key, pub, e := account.Card(s, secret); key != 0 || pub != 0 || e != want {
			t.Error("Card", secret, key, pub, e)
		}
		if n, e := account.Own(s, secret); n != 0 || e != want {
			t.Error("Own", secret, n, e)
		}
	}
	for _, bad := range noTerms() {
		refused(s, bad, api.ErrArg)
		refused(term.New(), bad, api.ErrArg)
		for _, none := range lost() {
			refused(none, bad, api.ErrNil)
		}
	}
	refused(term.New(), 1, api.ErrArg)
	for _, none := range lost() {
		refused(none, 1, api.ErrNil)
	}
	if !slices.Equal(all(s), before) {
		t.Error("changed", all(s))
	}
}
