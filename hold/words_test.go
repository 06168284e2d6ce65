package hold_test

import (
	"math"
	"testing"

	"phratry/api"
	"phratry/hold"
	"phratry/term"
)

// twoTree is held, where there are three terms: the members 5 and 6.
func twoTree() api.Tree {
	return api.Tree{Nodes: []api.Node{{Pub: 1, Member: 5}, {Pub: 3}, {Pub: 2, Member: 6}}}
}

func TestState(t *testing.T) {
	s := storeOf(t, 3)
	good := func() api.State {
		return api.State{
			Group: -9, Member: 6, Leaf: 1, Tree: twoTree(), Keys: []api.Key{{Node: 2, Secret: 1}, {Node: 99, Secret: 3}},
			Now: api.Secrets{Init: 1, Outer: 3, Joiner: -1}, Sent: -5,
		}
	}
	for what, c := range map[string]struct {
		by    func(st *api.State)
		maybe bool
	}{
		"good": {func(*api.State) {}, true}, "a late epoch": {func(st *api.State) { st.Epoch = math.MaxInt }, true},
		"no keys": {func(st *api.State) { st.Keys = nil }, true}, "other secrets": {func(st *api.State) { st.Now = api.Secrets{Init: 2, Outer: 2} }, true},
		"the other one": {func(st *api.State) { st.Member, st.Leaf = 5, 0 }, true},
		"Epoch":         {func(st *api.State) { st.Epoch = -1 }, false}, "a low Epoch": {func(st *api.State) { st.Epoch = math.MinInt }, false},
		"Leaf": {func(st *api.State) { st.Leaf = 0 }, false}, "no member": {func(st *api.State) { st.Member = 7 }, false},
		"no member, nor leaf": {func(st *api.State) { st.Member, st.Leaf = 7, -1 }, false},
		"Init":                {func(st *api.State) { st.Now.Init = 0 }, false}, "Init 4": {func(st *api.State) { st.Now.Init = 4 }, false},
		"Outer": {func(st *api.State) { st.Now.Outer = 0 }, false}, "Outer -1": {func(st *api.State) { st.Now.Outer = -1 }, false},
		"a key": {func(st *api.State) { st.Keys[1].Secret = 4 }, false}, "the first key": {func(st *api.State) { st.Keys[0].Secret = 0 }, false},
		"a public key": {func(st *api.State) { st.Tree.Nodes[1].Pub = 4 }, false}, "no tree": {func(st *api.State) { st.Tree = api.Tree{} }, false},
		"no right tree": {func(st *api.State) { st.Tree.Nodes[1].Member = 4 }, false},
	} {
		st := good()
		c.by(&st)
		if hold.State(s, st) != c.maybe {
			t.Error(what, !c.maybe)
		}
		if hold.State(term.New(), st) || hold.State(nil, st) || hold.State(&term.Store{}, st) {
			t.Error(what, "in a store without terms")
		}
	}
}

func TestFace(t *testing.T) {
	s := storeOf(t, 3)
	for what, c := range map[string]struct {
		f     api.Face
		maybe bool
	}{
		"good": {api.Face{Group: -9, Tree: twoTree(), Pub: 3}, true}, "a late epoch": {api.Face{Epoch: math.MaxInt, Tree: twoTree(), Pub: 1}, true},
		"no tree": {api.Face{Pub: 1}, true}, "Epoch": {api.Face{Epoch: -1, Tree: twoTree(), Pub: 1}, false}, "Pub": {api.Face{Tree: twoTree()}, false},
		"Pub 4": {api.Face{Tree: twoTree(), Pub: 4}, false}, "a tree": {api.Face{Tree: api.Tree{Nodes: []api.Node{{Pub: 4}}}, Pub: 1}, false},
	} {
		if hold.Face(s, c.f) != c.maybe {
			t.Error(what, !c.maybe)
		}
	}
}

// TestSeal: what opens a seal, and what is in it.
func TestSeal(t *testing.T) {
	s := storeOf(t, 2)
	put := func(x api.Term) int {
		n, e := s.Make(x)
		if e != api.OK {
			t.Fatal(x, e)
		}
		return n
	}
	pub := put(api.Term{Kind: api.TmPub, A: 1})
	twice := put(api.Term{Kind: api.TmPub, A: pub})
	derived := put(api.Term{Kind: api.TmKdf, N: 3, A: 1})
	for _, c := range []struct {
		n, opener, inside int
		ok                bool
	}{
		{put(api.Term{Kind: api.TmSeal, A: pub, B: 2}), 1, 2, true},
		{put(api.Term{Kind: api.TmSeal, A: twice, B: pub}), pub, pub, true},
		{put(api.Term{Kind: api.TmSeal, A: 2, B: 1}), 2, 1, true},
		{put(api.Term{Kind: api.TmSeal, A: derived, B: 1}), derived, 1, true},
		{1, 0, 0, false}, {pub, 0, 0, false}, {put(pair(1, 2)), 0, 0, false}, {0, 0, 0, false}, {-1, 0, 0, false}, {99, 0, 0, false}, {math.MaxInt, 0, 0, false},
	} {
		opener, inside, ok := hold.Seal(s, c.n)
		if opener != c.opener || inside != c.inside || ok != c.ok {
			t.Error(c, opener, inside, ok)
		}
	}
	if opener, inside, ok := hold.Seal(nil, 1); opener != 0 || inside != 0 || ok {
		t.Error("no store")
	}
}

// TestAside: what is worked out aside means what stands in the store, and leaves that as it is.
func TestAside(t *testing.T) {
	s := storeOf(t, 3)
	make2 := func(s *term.Store, a, b int) int {
		x, _ := s.Make(api.Term{Kind: api.TmKdf, N: 7, A: a})
		y, _ := s.Make(pair(x, b))
		return y
	}
	there := make2(s, 2, 3)
	a := hold.NewAside()
	// Other things ahead of it give it other numbers there.
	a.StandIn(77)
	a.StandIn(78)
	two, three := a.StandIn(2), a.StandIn(3)
	aside := make2(a.Terms, two, three)
	for what, c := range map[string]struct {
		x, y  int
		means bool
	}{
		"the same": {aside, there, true}, "a stand-in": {two, 2, true}, "another stand-in": {three, 2, false}, "none": {0, 0, true},
		"none aside": {0, there, false}, "none there": {aside, 0, false}, "no term there": {aside, 99, false}, "no term aside": {99, there, false},
		"parts the other way round": {make2(a.Terms, three, two), there, false}, "what is in it": {aside, there - 1, false},
		"another N": {func() int { x, _ := a.Terms.Make(api.Term{Kind: api.TmKdf, N: 8, A: two}); return x }(), there - 1, false},
		"a kind":    {func() int { x, _ := a.Terms.Make(api.Term{Kind: api.TmPub, A: two}); return x }(), there - 1, false},
		"its part":  {func() int { x, _ := a.Terms.Make(api.Term{Kind: api.TmKdf, N: 7, A: two}); return x }(), there - 1, true},
	} {
		if a.Means(c.x, s, c.y) != c.means {
			t.Error(what, !c.means)
		}
	}
	if s.Len() != 5 {
		t.Error("changed the store", s.Len())
	}
	if hold.NewAside().Terms.Len() != 0 {
		t.Error("not new")
	}
}

// TestStandIn: none for what is no number of a term that may be drawn.
func TestStandIn(t *testing.T) {
	a := hold.NewAside()
	if a.StandIn(-1) != 0 || a.StandIn(math.MinInt) != 0 || a.StandIn(math.MaxInt) == 0 || a.StandIn(0) == 0 {
		t.Error("stand-ins")
	}
}

// TestCareful: one that is not sure leaves nothing with an error; one that goes makes the same as if it were.
func TestCareful(t *testing.T) {
	for _, bad := range []api.Errno{api.OK, api.ErrKey, api.ErrLimit} {
		for _, sure := range []bool{true, false} {
			s := storeOf(t, 2)
			calls := 0
			l, e := hold.Careful(s, sure, most, func(s *term.Store) ([]int, api.Errno) {
				calls++
				l, _ := row(s.Make, many, new([][]int))
				if bad != api.OK {
					return nil, bad
				}
				return l, api.OK
			})
			left, times := 2+many, 2
			if bad != api.OK {
				times = 1
			}
			if sure {
				times = 1
			} else if bad != api.OK {
				left = 2
			}
			if e != bad || (l == nil) != (bad != api.OK) || s.Len() != left || calls != times {
				t.Error(bad, sure, e, l, s.Len(), calls)
			}
		}
	}
}

// TestCarefulShort: with less room than all that is made needs, nothing is, sure or not.
func TestCarefulShort(t *testing.T) {
	t.Parallel()
	for _, sure := range []bool{true, false} {
		s := started(t, 0)
		fill(s, many)
		l, e := hold.Careful(s, sure, most, rowOf(new([][]int)))
		if e != api.OK || len(l) != 2*many+1 || s.Len() != api.MaxTerms {
			t.Error(sure, l, e)
		}
		s = started(t, 0)
		for _, room := range []int{many - 1, 0} {
			fill(s, room)
			l, e := hold.Careful(s, sure, most, rowOf(new([][]int)))
			if e != api.ErrLimit || l != nil || s.Len() != api.MaxTerms-room {
				t.Error(sure, room, l, e)
			}
		}
	}
}
