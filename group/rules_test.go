package group_test

import (
	"reflect"
	"slices"
	"testing"

	"phratry/api"
	"phratry/group"
	"phratry/term"
)

// span is the memory of a list, its spare room too.
type span struct{ from, to uintptr }

// spans is the memory of all lists in something.
func spans(v reflect.Value) (l []span) {
	switch v.Kind() {
	case reflect.Struct:
		for i := range v.NumField() {
			l = append(l, spans(v.Field(i))...)
		}
	case reflect.Slice:
		whole := v.Slice(0, v.Cap())
		if v.Cap() > 0 {
			from := v.Pointer()
			l = append(l, span{from, from + uintptr(v.Cap())*v.Type().Elem().Size()})
		}
		for i := range whole.Len() {
			l = append(l, spans(whole.Index(i))...)
		}
	}
	return l
}

// apart: do no two lists in these things share memory?
func apart(t *testing.T, what string, things ...any) {
	t.Helper()
	var l []span
	for _, x := range things {
		l = append(l, spans(reflect.ValueOf(x))...)
	}
	slices.SortFunc(l, func(a, b span) int { return int(int64(a.from) - int64(b.from)) })
	for i := 1; i < len(l); i++ {
		if l[i-1].to > l[i].from {
			t.Fatal(what, "shares memory")
		}
	}
}

// roomy is a list with room to spare, filled with what nobody may touch.
func roomy[T any](l []T, filler T) []T {
	long := append(slices.Clone(l), slices.Repeat([]T{filler}, 9)...)
	return long[:len(l)]
}

func roomyTree(t api.Tree) api.Tree {
	l := roomy(t.Nodes, api.Node{Pub: -9})
	for i := range l {
		l[i].Unmerged = roomy(l[i].Unmerged, -9)
	}
	return api.Tree{Nodes: l}
}

func roomyState(st api.State) api.State {
	st.Tree, st.Keys = roomyTree(st.Tree), roomy(st.Keys, api.Key{Node: -9})
	return st
}

func roomyCommit(c api.Commit) api.Commit {
	c.Adds, c.Removes = roomy(c.Adds, api.Add{Member: -9}), roomy(c.Removes, -9)
	c.Seals, c.Joins = roomy(c.Seals, api.Seal{At: -9}), roomy(c.Joins, api.Join{Member: -9})
	c.Next = roomyTree(c.Next)
	return c
}

func roomyPlan(p group.Plan) group.Plan {
	p.Adds, p.Removes = roomy(p.Adds, api.Add{Member: -9}), roomy(p.Removes, -9)
	return p
}

// allOf tells something with all the room that its lists have.
func allOf(v reflect.Value) string {
	switch v.Kind() {
	case reflect.Struct:
		text := "{"
		for i := range v.NumField() {
			text += allOf(v.Field(i)) + " "
		}
		return text + "}"
	case reflect.Slice:
		text := "["
		for i := range v.Cap() {
			if i == v.Len() {
				text += "| "
			}
			text += allOf(v.Slice(0, v.Cap()).Index(i)) + " "
		}
		return text + "]"
	}
	return tell(v.Interface())
}

// untouched: a call leaves what it is given as it is, its spare room too.
func untouched(t *testing.T, what string, call func(), given ...any) {
	t.Helper()
	told := func() (l []string) {
		for _, x := range given {
			l = append(l, allOf(reflect.ValueOf(x)))
		}
		return l
	}
	before := told()
	call()
	if !slices.Equal(told(), before) {
		t.Fatal(what, "changes what it was given")
	}
}

// TestR4Memory: what is handed in stays, and no two lists of what was handed in or answered share memory.
func TestR4Memory(t *testing.T) {
	x := dice(4)
	for range 60 {
		g := newBand(t, &x)
		g.play(1 + x.roll(8))
		out := &device{member: 50}
		outside, f := g.planOutside(out), group.FaceOf(roomyCommit(g.last()))
		f.Tree = roomyTree(f.Tree)
		untouched(t, "External", func() {
			st, c, _ := group.External(g.s, f, outside)
			again, d, _ := group.External(g.s, f, outside)
			apart(t, "External", f, st, c, again, d)
		}, f)
		if len(g.devices) == 0 {
			continue
		}
		d := g.devices[x.roll(len(g.devices))]
		p, fresh := g.plan(d)
		p = roomyPlan(p)
		st := roomyState(d.now())
		var c api.Commit
		untouched(t, "Commit", func() {
			var a, b api.State
			var other api.Commit
			a, c, _ = group.Commit(g.s, st, p)
			b, other, _ = group.Commit(g.s, st, p)
			apart(t, "Commit", st, p, a, c, b, other)
		}, st, p)
		c = roomyCommit(c)
		for _, d := range g.devices {
			st := roomyState(d.now())
			untouched(t, "Follow", func() {
				a, _ := group.Follow(g.s, st, c)
				b, _ := group.Follow(g.s, st, c)
				apart(t, "Follow", st, c, a, b)
			}, st, c)
		}
		untouched(t, "Enter, Own, FaceOf", func() {
			given := []any{c, group.FaceOf(c), group.FaceOf(c)}
			for _, n := range fresh {
				a, _ := group.Enter(g.s, c, n.member, n.drawn[0])
				b, _ := group.Enter(g.s, c, n.member, n.drawn[0])
				given = append(given, a, b)
			}
			a, _ := group.Own(g.s, c, p.Own)
			b, _ := group.Own(g.s, c, p.Own)
			apart(t, "Enter, Own, FaceOf", append(given, a, b)...)
		}, c)
	}
}

// odd makes anything of a struct: each number any, each list of a few.
type odd struct {
	x *dice
	b bench
}

func (o odd) number() int {
	switch o.x.roll(4) {
	case 0:
		return o.x.one(wild)
	case 1:
		return o.x.roll(o.b.s.Len() + 2)
	}
	return o.x.roll(10) - 1
}

// spoil changes some of the numbers in something, and the lengths of some lists.
func (o odd) spoil(v reflect.Value, thin int) {
	switch v.Kind() {
	case reflect.Struct:
		for i := range v.NumField() {
			o.spoil(v.Field(i), thin)
		}
	case reflect.Slice:
		if o.x.roll(thin) == 0 {
			v.Set(v.Slice(0, o.x.roll(v.Len()+1)))
		}
		for o.x.roll(thin) == 0 {
			v.Set(reflect.Append(v, reflect.Zero(v.Type().Elem())))
			o.spoil(v.Index(v.Len()-1), 2)
		}
		for i := range v.Len() {
			o.spoil(v.Index(i), thin)
		}
	case reflect.Int:
		if o.x.roll(thin) == 0 {
			v.SetInt(int64(o.number()))
		}
	case reflect.Bool:
		if o.x.roll(thin) == 0 {
			v.SetBool(!v.Bool())
		}
	}
}

// alone is a call that answers a state, with no commit beside it.
func alone(call func() (api.State, api.Errno)) func() (api.State, api.Commit, api.Errno) {
	return func() (api.State, api.Commit, api.Errno) {
		st, e := call()
		return st, api.Commit{}, e
	}
}

// TestR1AnyNumbers: no call panics, whatever it is given; with an error there is nothing else, and nothing has changed.
func TestR1AnyNumbers(t *testing.T) {
	x := dice(1)
	for range 40 {
		g := newBand(t, &x)
		g.play(1 + x.roll(5))
		if len(g.devices) == 0 {
			continue
		}
		d := g.devices[0]
		good, _ := g.plan(d)
		_, commit, _ := group.Commit(g.s, d.now(), good)
		o := odd{&x, g.bench}
		for range 300 {
			thin := x.one([]int{3, 10, 40, 100})
			st, c, f, p := roomyState(d.now()), roomyCommit(commit), group.FaceOf(g.last()), roomyPlan(good)
			for _, v := range []any{&st, &c, &f, &p} {
				o.spoil(reflect.ValueOf(v).Elem(), thin)
			}
			who, secret := o.number(), o.number()
			calls := []func() (api.State, api.Commit, api.Errno){
				func() (api.State, api.Commit, api.Errno) { return group.Create(g.s, who, p) },
				func() (api.State, api.Commit, api.Errno) { return group.Commit(g.s, st, p) },
				func() (api.State, api.Commit, api.Errno) { return group.External(g.s, f, p) },
				alone(func() (api.State, api.Errno) { return group.Follow(g.s, st, c) }),
				alone(func() (api.State, api.Errno) { return group.Enter(g.s, c, who, secret) }),
				alone(func() (api.State, api.Errno) { return group.Own(g.s, c, secret) }),
			}
			for i, call := range calls {
				many := g.s.Len()
				a, b, e := call()
				if e != api.OK && (tell(a) != tell(api.State{}) || tell(b) != tell(api.Commit{}) || g.s.Len() != many) {
					t.Fatal(i, e, tell(a), tell(b), g.s.Len()-many)
				}
			}
			same(t, "FaceOf", group.FaceOf(c), api.Face{Group: c.Group, Epoch: c.Epoch, Tree: c.Next, Pub: c.Face})
		}
	}
}

// TestR5TwoStores: the same calls on two stores answer the same terms, whatever else is in one of them.
func TestR5TwoStores(t *testing.T) {
	tell := func(b bench) (l [][]api.Term) {
		a, c, _ := group.Create(b.s, 4, group.Plan{Member: 8, Seed: b.rand(1), Own: b.rand(2)})
		a2, d, _ := group.Commit(b.s, a, group.Plan{Member: 8, Seed: b.rand(3), Adds: []api.Add{{Member: 9, Pub: b.card(b.rand(4))}}})
		n, _ := group.Enter(b.s, d, 9, b.rand(4))
		o, f, _ := group.External(b.s, group.FaceOf(d), group.Plan{Member: 7, Seed: b.rand(5), Entry: b.rand(6)})
		m, _ := group.Follow(b.s, n, f)
		w, _ := group.Own(b.s, c, b.rand(2))
		for _, st := range []api.State{a, a2, n, o, m, w} {
			for _, x := range stateTerms(st) {
				l = append(l, b.s.Dag(x))
			}
		}
		for _, y := range []api.Commit{c, d, f} {
			for _, x := range termsOf(y) {
				l = append(l, b.s.Dag(x))
			}
		}
		return l
	}
	a, b := newBench(t), newBench(t)
	for n := range 50 {
		b.rand(100 - n)
	}
	same(t, "two stores", tell(a), tell(b))
}

// fill leaves a store so much room.
func (b bench) fill(room int) {
	b.t.Helper()
	for b.s.Len() < api.MaxTerms-room {
		b.put(random(int64(1<<40 + b.s.Len())))
	}
}

// brink tries a call on a store that is filled up: with room for all that it makes it goes; with less it is ErrLimit, and changes
// nothing. What is set up answers the call, which makes at least so many terms.
func brink(t *testing.T, least int, setup func(b bench) func() (api.State, api.Commit, api.Errno)) {
	t.Helper()
	small := newBench(t)
	call := setup(small)
	many := small.s.Len()
	_, _, e := call()
	need := small.s.Len() - many
	if e != api.OK || need < least {
		t.Fatal("in a small store", e, need)
	}
	b := newBench(t)
	call = setup(b)
	for i, room := range []int{need - 1, need / 2, 1, 0} {
		if i > 0 && room >= need-1 {
			continue
		}
		b.fill(room)
		refused(t, b.s, "without room", api.ErrLimit, call)
	}
	b = newBench(t)
	call = setup(b)
	b.fill(need)
	for range 2 {
		if _, _, e := call(); e != api.OK || b.s.Len() != api.MaxTerms {
			t.Fatal("just enough", e, b.s.Len())
		}
	}
}

func TestLimitCreate(t *testing.T) {
	t.Parallel()
	brink(t, 20, func(b bench) func() (api.State, api.Commit, api.Errno) {
		p := group.Plan{Member: 8, Seed: b.rand(1), Own: b.rand(2)}
		return func() (api.State, api.Commit, api.Errno) { return group.Create(b.s, 4, p) }
	})
}

// great is a group of two, far apart, with a key at each parent, and a plan by which it has eight members. None of its numbers
// stand in the store as data: so a commit makes some 140 terms.
func great(b bench) (api.State, group.Plan) {
	t := api.Tree{Nodes: make([]api.Node, 15)}
	for i := range t.Nodes {
		if i%2 == 1 {
			t.Nodes[i].Pub = b.rand(100 + i)
		}
	}
	t.Nodes[0], t.Nodes[14] = api.Node{Pub: b.rand(1), Member: 100, Epoch: 200}, api.Node{Pub: b.rand(2), Member: 107, Epoch: 207}
	p := group.Plan{Member: 100, KeyEpoch: 300, Seed: b.rand(3), Own: b.rand(4)}
	for i := 1; i < 7; i++ {
		p.Adds = append(p.Adds, api.Add{Member: 100 + i, Epoch: 200 + i, Pub: b.card(b.rand(10 + i))})
	}
	return api.State{Group: 1 << 30, Epoch: 400, Member: 100, Tree: t, Now: api.Secrets{Init: b.rand(5), Outer: b.rand(6)}}, p
}

func TestLimitCommit(t *testing.T) {
	t.Parallel()
	brink(t, 120, func(b bench) func() (api.State, api.Commit, api.Errno) {
		st, p := great(b)
		return func() (api.State, api.Commit, api.Errno) { return group.Commit(b.s, st, p) }
	})
}

func TestLimitExternal(t *testing.T) {
	t.Parallel()
	brink(t, 30, func(b bench) func() (api.State, api.Commit, api.Errno) {
		st, p := great(b)
		f := api.Face{Group: 1 << 30, Epoch: 77, Tree: st.Tree, Pub: b.card(st.Now.Outer)}
		p = group.Plan{Member: 107, KeyEpoch: 302, Seed: p.Seed, Own: p.Own, Entry: b.rand(7)}
		return func() (api.State, api.Commit, api.Errno) { return group.External(b.s, f, p) }
	})
}

// TestLimitFollow: of a commit that came from another store Init, Export and App are not there yet.
func TestLimitFollow(t *testing.T) {
	t.Parallel()
	brink(t, 3, func(b bench) func() (api.State, api.Commit, api.Errno) {
		o := newFour(t)
		st, c := movedState(o.s, b.s, o.before[8]), movedCommit(o.s, b.s, o.commit)
		return alone(func() (api.State, api.Errno) {
			// What does not open needs no room.
			if _, e := group.Follow(b.s, st, with(c, func(c *api.Commit) { c.Seals = nil })); e != api.ErrKey {
				t.Error(e)
			}
			return group.Follow(b.s, st, c)
		})
	})
}

// byHand is a commit of the member 8 whose Joiner is any term, so that the secret behind its path is not there yet, nor are
// Init, Export and App. Whatever is changed of it, its Face is right.
func byHand(b bench, by func(c *api.Commit)) (c api.Commit, card, own int) {
	seed, joiner := b.rand(1), b.rand(2)
	card, own = b.rand(3), b.rand(4)
	next := nodes(b.leaf(seed, 8, 0), api.Node{Pub: b.pub(b.next(seed, 1))}, api.Node{Pub: b.card(card), Member: 9})
	c = api.Commit{Group: 4, Epoch: 1, Member: 8, Next: next, Own: b.sealed(own, joiner, seed)}
	c.Joins = []api.Join{{Member: 9, Term: b.sealed(b.card(card), joiner, b.next(seed, 1))}}
	by(&c)
	epoch := b.put(kdf(api.LbEpoch, joiner, b.context(c.Group, c.Epoch, c.Next)))
	c.Face = b.card(b.put(kdf(api.LbOuter, epoch, 0)))
	return c, card, own
}

func TestLimitEnter(t *testing.T) {
	t.Parallel()
	brink(t, 4, func(b bench) func() (api.State, api.Commit, api.Errno) {
		c, card, _ := byHand(b, func(*api.Commit) {})
		return alone(func() (api.State, api.Errno) { return group.Enter(b.s, c, 9, card) })
	})
}

func TestLimitOwn(t *testing.T) {
	t.Parallel()
	brink(t, 4, func(b bench) func() (api.State, api.Commit, api.Errno) {
		c, _, own := byHand(b, func(*api.Commit) {})
		return alone(func() (api.State, api.Errno) { return group.Own(b.s, c, own) })
	})
}

// TestLimitNone: in a store without room all is taken for which everything is there.
func TestLimitNone(t *testing.T) {
	t.Parallel()
	x := newFour(t)
	x.fill(0)
	for _, m := range []int{8, 9, 6} {
		same(t, "Follow", x.must(group.Follow(x.s, x.before[m], x.commit)), x.states[m])
	}
	same(t, "Own", x.must(group.Own(x.s, x.commit, x.rand(7))), x.states[7])
	var none *term.Store
	closed(t, none, "no store", api.ErrNil, func() (api.State, api.Errno) { return group.Own(none, x.commit, 1) })
}
