package term_test

import (
	"fmt"
	"math"
	"slices"
	"testing"

	"phratry/api"
	"phratry/term"
)

func random(n int64) api.Term            { return api.Term{Kind: api.TmRand, N: n} }
func data(n int64) api.Term              { return api.Term{Kind: api.TmData, N: n} }
func pair(a, b int) api.Term             { return api.Term{Kind: api.TmPair, A: a, B: b} }
func kdf(label int64, a, b int) api.Term { return api.Term{Kind: api.TmKdf, N: label, A: a, B: b} }
func pub(a int) api.Term                 { return api.Term{Kind: api.TmPub, A: a} }
func seal(a, b int) api.Term             { return api.Term{Kind: api.TmSeal, A: a, B: b} }
func hash(a int) api.Term                { return api.Term{Kind: api.TmHash, A: a} }

// make1 makes a term that must go.
func make1(t *testing.T, s *term.Store, x api.Term) int {
	t.Helper()
	n, e := s.Make(x)
	if e != api.OK {
		t.Fatalf("Make(%v): %v", x, e)
	}
	return n
}

// storeOf makes the terms in order; each must be a new one.
func storeOf(t *testing.T, l ...api.Term) *term.Store {
	t.Helper()
	s := term.New()
	for i, x := range l {
		if n := make1(t, s, x); n != i+1 {
			t.Fatalf("Make(%v) = %d, not %d", x, n, i+1)
		}
	}
	return s
}

// all tells what a store has, to see whether it was changed.
func all(s *term.Store) []api.Term {
	var l []api.Term
	for n := 1; n <= s.Len(); n++ {
		x, _ := s.Get(n)
		l = append(l, x)
	}
	return l
}

// dice draws the same numbers in every run.
type dice uint64

func (d *dice) roll(n int) int {
	*d = *d*6364136223846793005 + 1442695040888963407
	return int(uint64(*d) >> 33 % uint64(n))
}

// term draws one that may be in a store of so many terms.
func (d *dice) term(many int) api.Term {
	n := int64(d.roll(4))
	if many == 0 {
		return random(n)
	}
	a, b := 1+d.roll(many), 1+d.roll(many)
	switch d.roll(8) {
	case 0:
		return random(n)
	case 1:
		return data(n - 2)
	case 2:
		return pair(a, b)
	case 3:
		return kdf(n, a, 0)
	case 4:
		return kdf(n, a, b)
	case 5:
		return pub(a)
	case 6:
		return seal(a, b)
	}
	return hash(a)
}

func (d *dice) store(many int) *term.Store {
	s := term.New()
	for s.Len() < many {
		s.Make(d.term(s.Len()))
	}
	return s
}

// wild are numbers that no small store has.
var wild = []int{math.MinInt, math.MinInt + 1, -1 << 32, -2, -1, 0, 1 << 20, 1<<20 + 1, 1 << 32, math.MaxInt - 1, math.MaxInt}

func TestP31NewLen(t *testing.T) {
	s := term.New()
	if s == nil || s.Len() != 0 {
		t.Fatal("new:", s)
	}
	for n := -3; n <= 3; n++ {
		if x, ok := s.Get(n); ok || x != (api.Term{}) {
			t.Errorf("new: Get(%d) = %v, %v", n, x, ok)
		}
	}
	for i := range 100 {
		make1(t, s, random(int64(i)))
		make1(t, s, random(int64(i/2)))
		if s.Len() != i+1 {
			t.Fatalf("%d of %d", s.Len(), i+1)
		}
	}
}

func TestP31StoresShareNothing(t *testing.T) {
	a, b := term.New(), term.New()
	make1(t, a, random(1))
	make1(t, a, pub(1))
	if _, e := b.Make(pub(1)); e != api.ErrArg || b.Len() != 0 {
		t.Error("the other store's part:", e)
	}
	if n := make1(t, b, data(5)); n != 1 || a.Len() != 2 {
		t.Error(n, a.Len())
	}
	if x, _ := a.Get(1); x != random(1) {
		t.Error(x)
	}
}

func TestP32Examples(t *testing.T) {
	s := term.New()
	for i, c := range []struct {
		x    api.Term
		n    int
		e    api.Errno
		many int
	}{
		{random(7), 1, api.OK, 1},
		{data(3), 2, api.OK, 2},
		{pair(1, 2), 3, api.OK, 3},
		{data(3), 2, api.OK, 3},
		{pair(1, 9), 0, api.ErrArg, 3},
		{random(-1), 0, api.ErrArg, 3},
		{kdf(4, 1, 0), 4, api.OK, 4},
		{random(7), 1, api.OK, 4},
		{pair(1, 2), 3, api.OK, 4},
	} {
		if n, e := s.Make(c.x); n != c.n || e != c.e || s.Len() != c.many {
			t.Errorf("%d: Make(%v) = %d, %v, of %d", i, c.x, n, e, s.Len())
		}
	}
}

// field says what a kind may have in one of its fields.
type field int

const (
	nought field = iota // 0 alone
	upward              // from 0 on
	any64               // any number
	part                // a term's number
	maybe               // a term's number, or 0
)

func (f field) takes(n int64, many int) bool {
	isPart := n >= 1 && n <= int64(many)
	switch f {
	case nought:
		return n == 0
	case upward:
		return n >= 0
	case any64:
		return true
	case part:
		return isPart
	}
	return n == 0 || isPart
}

// TestP32MayBe goes through every kind with all fields at their edges, and holds Make against the chapter's table.
func TestP32MayBe(t *testing.T) {
	table := map[api.TermKind][3]field{
		1: {upward, nought, nought},
		2: {any64, nought, nought},
		3: {nought, part, part},
		4: {upward, part, maybe},
		5: {nought, part, nought},
		6: {nought, part, part},
		7: {nought, part, nought},
	}
	base := []api.Term{random(7), data(3), hash(1)}
	numbers := []int64{math.MinInt64, -1 << 32, -2, -1, 0, 1, 2, 14, 1 << 32, math.MaxInt64}
	parts := []int{math.MinInt, -1 << 32, -3, -1, 0, 1, 3, 4, 5, 1 << 32, 1<<32 + 1, math.MaxInt}
	for kind := range 256 {
		for _, n := range numbers {
			for _, a := range parts {
				for _, b := range parts {
					x := api.Term{Kind: api.TermKind(kind), N: n, A: a, B: b}
					f, known := table[x.Kind]
					may := known && f[0].takes(n, 3) && f[1].takes(int64(a), 3) && f[2].takes(int64(b), 3)
					if may || kind < 9 || kind == 255 || n == 0 {
						checkMake(t, base, x, may)
					}
				}
			}
		}
	}
}

// checkMake makes x in a store that has just base.
func checkMake(t *testing.T, base []api.Term, x api.Term, may bool) {
	t.Helper()
	s := storeOf(t, base...)
	n, e := s.Make(x)
	if !may {
		if n != 0 || e != api.ErrArg || !slices.Equal(all(s), base) {
			t.Fatalf("Make(%v) = %d, %v, which may not be", x, n, e)
		}
		return
	}
	want := slices.Index(base, x) + 1
	if want == 0 {
		want = len(base) + 1
	}
	if got, ok := s.Get(n); e != api.OK || n != want || !ok || got != x {
		t.Fatalf("Make(%v) = %d, %v, not %d", x, n, e, want)
	}
}

// TestP32EachFieldTells: terms that differ in one thing alone are two.
func TestP32EachFieldTells(t *testing.T) {
	l := []api.Term{
		random(0), random(1), data(0), data(1), data(-1), random(math.MaxInt64), data(math.MinInt64), data(math.MaxInt64),
		pair(1, 2), pair(2, 1), pair(1, 1), seal(1, 2), seal(2, 1), seal(1, 1),
		pub(1), pub(2), hash(1), hash(2),
		kdf(0, 1, 0), kdf(1, 1, 0), kdf(0, 2, 0), kdf(0, 1, 1), kdf(0, 1, 2), kdf(0, 2, 1), kdf(math.MaxInt64, 1, 0), kdf(1<<32, 1, 0),
	}
	s := storeOf(t, l...)
	for i, x := range l {
		if n := make1(t, s, x); n != i+1 {
			t.Errorf("Make(%v) again: %d, not %d", x, n, i+1)
		}
	}
	if !slices.Equal(all(s), l) {
		t.Error(all(s))
	}
}

// full is a store without room, or with room for some more: rand 0, its number up.
func full(t *testing.T, room int) *term.Store {
	t.Helper()
	s := term.New()
	for i := range api.MaxTerms - room {
		if n, e := s.Make(random(int64(i))); n != i+1 || e != api.OK {
			t.Fatal(i, n, e)
		}
	}
	return s
}

func TestP32Limit(t *testing.T) {
	s := full(t, 2)
	if n := make1(t, s, pair(1, 2)); n != 1<<20-1 {
		t.Error("the last but one:", n)
	}
	if n := make1(t, s, data(8)); n != 1<<20 || s.Len() != 1<<20 {
		t.Error("the last one:", n)
	}
	for _, c := range []struct {
		x api.Term
		n int
		e api.Errno
	}{
		{random(1 << 30), 0, api.ErrLimit},
		{pair(2, 1), 0, api.ErrLimit},
		{kdf(0, 1<<20, 1<<20), 0, api.ErrLimit},
		{random(-1), 0, api.ErrArg},
		{pub(1<<20 + 1), 0, api.ErrArg},
		{api.Term{}, 0, api.ErrArg},
		{random(0), 1, api.OK},
		{random(1<<20 - 3), 1<<20 - 2, api.OK},
		{pair(1, 2), 1<<20 - 1, api.OK},
		{data(8), 1 << 20, api.OK},
		{data(9), 0, api.ErrLimit},
	} {
		if n, e := s.Make(c.x); n != c.n || e != c.e || s.Len() != 1<<20 {
			t.Errorf("Make(%v) = %d, %v, of %d", c.x, n, e, s.Len())
		}
	}
	if _, ok := s.Get(1<<20 + 1); ok {
		t.Error("one above the limit is there")
	}
}

func TestP33Get(t *testing.T) {
	l := []api.Term{random(7), data(3), pair(1, 2), kdf(9, 3, 2), seal(4, 1)}
	s := storeOf(t, l...)
	for i, x := range l {
		if got, ok := s.Get(i + 1); !ok || got != x {
			t.Errorf("Get(%d) = %v, %v", i+1, got, ok)
		}
	}
	for _, n := range append([]int{len(l) + 1}, wild...) {
		if x, ok := s.Get(n); ok || x != (api.Term{}) {
			t.Errorf("Get(%d) = %v, %v", n, x, ok)
		}
	}
}

func TestP34Dag(t *testing.T) {
	s := storeOf(t,
		random(7), data(3), pair(1, 2), // 3
		random(8), pair(4, 3), // 5: the parts of 4 come first, though 1 to 3 are older
		pair(3, 4),   // 6
		pair(5, 5),   // 7: both parts are one
		kdf(4, 5, 0), // 8
		kdf(6, 8, 3), // 9: 3 was told within A
		seal(2, 9),   // 10
		pub(4),       // 11
		seal(11, 10), // 12
		hash(12),     // 13
		data(-5), pair(6, 5),
	)
	for n, want := range map[int][]api.Term{
		1:  {random(7)},
		2:  {data(3)},
		3:  {random(7), data(3), pair(1, 2)},
		5:  {random(8), random(7), data(3), pair(2, 3), pair(1, 4)},
		6:  {random(7), data(3), pair(1, 2), random(8), pair(3, 4)},
		7:  {random(8), random(7), data(3), pair(2, 3), pair(1, 4), pair(5, 5)},
		8:  {random(8), random(7), data(3), pair(2, 3), pair(1, 4), kdf(4, 5, 0)},
		9:  {random(8), random(7), data(3), pair(2, 3), pair(1, 4), kdf(4, 5, 0), kdf(6, 6, 4)},
		10: {data(3), random(8), random(7), pair(3, 1), pair(2, 4), kdf(4, 5, 0), kdf(6, 6, 4), seal(1, 7)},
		11: {random(8), pub(1)},
		13: {random(8), pub(1), data(3), random(7), pair(4, 3), pair(1, 5), kdf(4, 6, 0), kdf(6, 7, 5), seal(3, 8), seal(2, 9), hash(10)},
		14: {data(-5)},
		15: {random(7), data(3), pair(1, 2), random(8), pair(3, 4), pair(4, 3), pair(5, 6)},
	} {
		if got := s.Dag(n); !slices.Equal(got, want) {
			t.Errorf("Dag(%d) = %v, not %v", n, got, want)
		}
	}
	for _, n := range append([]int{16}, wild...) {
		if got := s.Dag(n); len(got) != 0 {
			t.Errorf("Dag(%d) = %v", n, got)
		}
	}
	if len(term.New().Dag(1)) != 0 {
		t.Error("Dag of an empty store")
	}
}

func TestP34DagIsNewMemory(t *testing.T) {
	s := storeOf(t, random(7), data(3), pair(1, 2), pair(3, 1))
	want := []api.Term{random(7), data(3), pair(1, 2), pair(3, 1)}
	a, b := s.Dag(4), s.Dag(4)
	for _, l := range [][]api.Term{a, a[:cap(a)]} {
		for i := range l {
			l[i] = data(99)
		}
	}
	if !slices.Equal(b, want) || !slices.Equal(s.Dag(4), want) || !slices.Equal(all(s), want) {
		t.Error("an answer shares memory:", b, s.Dag(4), all(s))
	}
}

// spell writes each term out by its parts: the same text in any store that has it.
func spell(s *term.Store) []string {
	texts := []string{""}
	for n := 1; n <= s.Len(); n++ {
		x, _ := s.Get(n)
		texts = append(texts, fmt.Sprintf("(%d %d %s %s)", x.Kind, x.N, texts[x.A], texts[x.B]))
	}
	return texts
}

// visit is Dag as the chapter tells it, by recursion.
func visit(s *term.Store, n int, list *[]api.Term, places map[int]int) int {
	if n == 0 || places[n] != 0 {
		return places[n]
	}
	x, _ := s.Get(n)
	x.A = visit(s, x.A, list, places)
	x.B = visit(s, x.B, list, places)
	*list = append(*list, x)
	places[n] = len(*list)
	return places[n]
}

func TestP34DagAsTold(t *testing.T) {
	var d dice
	for run := range 60 {
		s := d.store(1 + d.roll(80))
		for n := 1; n <= s.Len(); n++ {
			var want []api.Term
			visit(s, n, &want, map[int]int{})
			if got := s.Dag(n); !slices.Equal(got, want) {
				t.Fatalf("run %d: Dag(%d) = %v, not %v", run, n, got, want)
			}
		}
	}
}

// TestP34SameInTwoStores: lists are the same just where the terms are, whatever numbers they have.
func TestP34SameInTwoStores(t *testing.T) {
	d, same := dice(5), 0
	for range 60 {
		a, b := d.store(18), d.store(18)
		textsA, textsB := spell(a), spell(b)
		for i := 1; i <= a.Len(); i++ {
			for j := 1; j <= b.Len(); j++ {
				equal := textsA[i] == textsB[j]
				if slices.Equal(a.Dag(i), b.Dag(j)) != equal {
					t.Fatalf("%s and %s: %v, %v", textsA[i], textsB[j], a.Dag(i), b.Dag(j))
				}
				if equal && i != j {
					same++
				}
			}
		}
	}
	if same < 50 {
		t.Error("too few terms were the same to tell:", same)
	}
}

// TestP34MakeFromDag: made anew from its list, in a store that has other numbers, a term has that list again.
func TestP34MakeFromDag(t *testing.T) {
	d := dice(9)
	s := d.store(60)
	for n := 1; n <= s.Len(); n++ {
		list := s.Dag(n)
		other := d.store(7)
		numbers := []int{0}
		for _, x := range list {
			x.A, x.B = numbers[x.A], numbers[x.B]
			numbers = append(numbers, make1(t, other, x))
		}
		if got := other.Dag(numbers[len(list)]); !slices.Equal(got, list) {
			t.Fatalf("Dag(%d) = %v, then %v", n, list, got)
		}
	}
}

// TestP34DeepAndWide: a term that would be 2^200 terms, spelt out; one that is as deep as half a full store.
func TestP34DeepAndWide(t *testing.T) {
	s := storeOf(t, random(0))
	for n := range 200 {
		make1(t, s, pair(n+1, n+1))
	}
	if got := s.Dag(201); len(got) != 201 || got[200] != pair(200, 200) {
		t.Error("wide:", len(got))
	}
	s = storeOf(t, random(0))
	for n := 1; n < 1<<19; n++ {
		make1(t, s, hash(n))
	}
	if got := s.Dag(1 << 19); len(got) != 1<<19 || got[0] != random(0) || got[1<<19-1] != hash(1<<19-1) {
		t.Error("deep:", len(got))
	}
}

func TestP35List(t *testing.T) {
	s := storeOf(t, random(7), data(3), random(8))
	for _, c := range []struct {
		l    []int
		n    int
		many int
	}{
		{nil, 0, 3},
		{[]int{}, 0, 3},
		{[]int{1}, 1, 3},
		{[]int{3}, 3, 3},
		{[]int{1, 2}, 4, 4},
		{[]int{1, 2, 1}, 6, 6}, // 5 is the pair of 2 and 1
		{[]int{2, 1}, 5, 6},
		{[]int{1, 2, 1}, 6, 6},
		{[]int{3, 1, 2, 1}, 7, 7},
		{[]int{3, 6}, 7, 7},
		{[]int{2, 2, 2}, 9, 9},
		{[]int{4, 3}, 10, 10}, // a pair that is handed in is one thing
	} {
		if n, e := s.List(c.l...); n != c.n || e != api.OK || s.Len() != c.many {
			t.Errorf("List(%v) = %d, %v, of %d", c.l, n, e, s.Len())
		}
	}
	want := []api.Term{random(7), data(3), random(8), pair(1, 2), pair(2, 1), pair(1, 5), pair(3, 6), pair(2, 2), pair(2, 8), pair(4, 3)}
	if !slices.Equal(all(s), want) {
		t.Error(all(s))
	}
}

func TestP35ListRefuses(t *testing.T) {
	s := storeOf(t, random(7), data(3))
	for _, bad := range append([]int{3}, wild...) {
		for _, l := range [][]int{{bad}, {bad, 1}, {1, bad}, {1, 2, bad}, {bad, 1, 2}, {1, bad, 2}, {2, 1, 2, bad, 1}} {
			if n, e := s.List(l...); n != 0 || e != api.ErrArg || s.Len() != 2 {
				t.Errorf("List(%v) = %d, %v, of %d", l, n, e, s.Len())
			}
		}
	}
}

func TestP35ListLeavesWhatIsHandedIn(t *testing.T) {
	s := storeOf(t, random(7), data(3))
	room := []int{1, 2, 1, 77, 78}
	s.List(room[:3]...)
	numbers := []int64{3, 4, 3, 77, 78}
	s.Data(numbers[:3]...)
	if !slices.Equal(room, []int{1, 2, 1, 77, 78}) || !slices.Equal(numbers, []int64{3, 4, 3, 77, 78}) {
		t.Error(room, numbers)
	}
}

func TestP35Data(t *testing.T) {
	s := storeOf(t, random(3), data(4))
	for _, c := range []struct {
		l    []int64
		n    int
		many int
	}{
		{nil, 0, 2},
		{[]int64{}, 0, 2},
		{[]int64{4}, 2, 2},
		{[]int64{3}, 3, 3},
		{[]int64{-1, math.MinInt64, math.MaxInt64}, 8, 8}, // 4 to 6, then 7: the pair of 5 and 6
		{[]int64{3, 4, 3}, 10, 10},
		{[]int64{3, 4, 3}, 10, 10},
		{[]int64{0}, 11, 11},
	} {
		if n, e := s.Data(c.l...); n != c.n || e != api.OK || s.Len() != c.many {
			t.Errorf("Data(%v) = %d, %v, of %d", c.l, n, e, s.Len())
		}
	}
	want := []api.Term{random(3), data(4), data(3), data(-1), data(math.MinInt64), data(math.MaxInt64), pair(5, 6), pair(4, 7), pair(2, 3), pair(3, 9), data(0)}
	if !slices.Equal(all(s), want) {
		t.Error(all(s))
	}
}

// TestP35ListFromBehind holds List against what the chapter says of it, one step at a time.
func TestP35ListFromBehind(t *testing.T) {
	d := dice(3)
	s := d.store(30)
	for range 200 {
		l := []int{1 + d.roll(s.Len()), 1 + d.roll(s.Len())}
		for range d.roll(6) {
			l = append(l, 1+d.roll(s.Len()))
		}
		rest, e := s.List(l[1:]...)
		if e != api.OK {
			t.Fatal(l, e)
		}
		n, e := s.List(l...)
		if x, ok := s.Get(n); e != api.OK || !ok || x != pair(l[0], rest) {
			t.Fatalf("List(%v) = %d, %v: %v", l, n, e, x)
		}
	}
}

func TestP35Limit(t *testing.T) {
	s := full(t, 4)
	if n, e := s.Data(6, 5); n != 1<<20-1 || e != api.OK {
		t.Fatal("Data, with room:", n, e)
	}
	if n, e := s.List(1, 2, 1); n != 0 || e != api.ErrLimit {
		t.Error("List, one pair has room:", n, e)
	}
	if n := make1(t, s, pair(2, 1)); n != 1<<20 { // which List may have left there
		t.Error("the last pair:", n)
	}
	for _, l := range [][]int{{1, 3}, {3, 2, 1}, {1, 2, 1}, {1, 1 << 20}} {
		if n, e := s.List(l...); n != 0 || e != api.ErrLimit {
			t.Errorf("List(%v) = %d, %v", l, n, e)
		}
	}
	for _, l := range [][]int{{1, 0}, {1, 3, 1<<20 + 1}, {-1}} {
		if n, e := s.List(l...); n != 0 || e != api.ErrArg {
			t.Errorf("List(%v) = %d, %v", l, n, e)
		}
	}
	for _, l := range [][]int64{{7}, {6, 7}, {5, 6}, {6, 5, 6}, {7, 6, 5}} {
		if n, e := s.Data(l...); n != 0 || e != api.ErrLimit {
			t.Errorf("Data(%v) = %d, %v", l, n, e)
		}
	}
	// What is there needs no room.
	if n, e := s.Data(6, 5); n != 1<<20-1 || e != api.OK {
		t.Error("Data, that is there:", n, e)
	}
	if n, e := s.List(2, 1); n != 1<<20 || e != api.OK {
		t.Error("List, that is there:", n, e)
	}
	if n, e := s.List(9); n != 9 || e != api.OK || s.Len() != 1<<20 {
		t.Error("List of one:", n, e)
	}
	if n, e := s.Data(); n != 0 || e != api.OK {
		t.Error("Data of none:", n, e)
	}
}

func TestP36MadeAgain(t *testing.T) {
	d, s := dice(1), term.New()
	made := map[api.Term]int{}
	for range 20000 {
		x := d.term(min(s.Len(), 40))
		before := s.Len()
		n := make1(t, s, x)
		if was, ok := made[x]; ok && (n != was || s.Len() != before) {
			t.Fatalf("Make(%v) = %d, not %d", x, n, was)
		} else if !ok && (n != before+1 || s.Len() != n) {
			t.Fatalf("Make(%v) = %d, of %d", x, n, before)
		}
		made[x] = n
		if got, ok := s.Get(n); !ok || got != x {
			t.Fatalf("Get(%d) = %v, %v, not %v", n, got, ok, x)
		}
		if x.A >= n || x.B >= n {
			t.Fatalf("%d has a part that is no lesser: %v", n, x)
		}
	}
	for x, n := range made {
		if got := make1(t, s, x); got != n {
			t.Fatalf("Make(%v) = %d, not %d", x, got, n)
		}
	}
}

// within: the numbers of a term and of all its parts, some of them several times.
func within(s *term.Store, n int) []int {
	x, ok := s.Get(n)
	if !ok {
		return nil
	}
	return append(append(within(s, x.A), within(s, x.B)...), n)
}

// TestP36PartsWithin: all that is told of a part is told of the whole, each once, and parts ahead of wholes.
func TestP36PartsWithin(t *testing.T) {
	d := dice(2)
	s := d.store(120)
	texts := spell(s)
	for n := 1; n <= s.Len(); n++ {
		whole := s.Dag(n)
		told := map[string]int{}
		spelt := []string{""}
		for i, x := range whole {
			if x.A > i || x.B > i {
				t.Fatalf("Dag(%d): %v stands ahead of its part", n, x)
			}
			spelt = append(spelt, fmt.Sprintf("(%d %d %s %s)", x.Kind, x.N, spelt[x.A], spelt[x.B]))
			told[spelt[i+1]]++
		}
		if len(told) != len(whole) || spelt[len(whole)] != texts[n] {
			t.Fatalf("Dag(%d) = %v", n, whole)
		}
		x, _ := s.Get(n)
		for _, part := range []int{x.A, x.B} {
			for _, inner := range within(s, part) {
				if told[texts[inner]] != 1 {
					t.Fatalf("Dag(%d) has not %d, of its part %d", n, inner, part)
				}
			}
		}
		if x.A != 0 && !slices.Equal(whole[:len(s.Dag(x.A))], s.Dag(x.A)) {
			t.Fatalf("Dag(%d) does not begin with that of %d", n, x.A)
		}
	}
}

func TestStoreNotThere(t *testing.T) {
	for _, s := range []*term.Store{nil, {}} {
		for range 2 {
			for _, x := range []api.Term{random(1), data(1), random(-1), pair(1, 1), {}} {
				if n, e := s.Make(x); n != 0 || e != api.ErrNil {
					t.Errorf("Make(%v) = %d, %v", x, n, e)
				}
			}
			for _, l := range [][]int{nil, {1}, {0}, {1, 1}} {
				if n, e := s.List(l...); n != 0 || e != api.ErrNil {
					t.Errorf("List(%v) = %d, %v", l, n, e)
				}
			}
			for _, l := range [][]int64{nil, {1}, {1, 1}} {
				if n, e := s.Data(l...); n != 0 || e != api.ErrNil {
					t.Errorf("Data(%v) = %d, %v", l, n, e)
				}
			}
			for _, n := range append([]int{1}, wild...) {
				if x, ok := s.Get(n); ok || x != (api.Term{}) || len(s.Dag(n)) != 0 {
					t.Errorf("Get(%d) = %v, %v; Dag %v", n, x, ok, s.Dag(n))
				}
			}
			if s.Len() != 0 {
				t.Error("Len", s.Len())
			}
		}
	}
}
