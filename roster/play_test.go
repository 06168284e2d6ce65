package roster_test

import (
	"math"
	"reflect"
	"slices"
	"testing"

	"phratry/api"
	"phratry/post"
	"phratry/roster"
	"phratry/tree"
)

// dice tells the same row of numbers at every run.
type dice uint64

func (x *dice) roll(n int) int {
	*x = *x*6364136223846793005 + 1442695040888963407
	return int(uint64(*x) >> 33 % uint64(n))
}

func (x *dice) one(l ...int) int { return l[x.roll(len(l))] }

// fill gives anything to all fields of something.
func (x *dice) fill(v reflect.Value) {
	switch v.Kind() {
	case reflect.Struct:
		for i := range v.NumField() {
			x.fill(v.Field(i))
		}
	case reflect.Slice:
		v.Set(reflect.MakeSlice(v.Type(), x.roll(3), 4))
		for i := range v.Len() {
			x.fill(v.Index(i))
		}
	case reflect.Bool:
		v.SetBool(x.roll(2) == 0)
	case reflect.Uint8:
		v.SetUint(uint64(x.roll(7)))
	default:
		v.SetInt(int64(x.roll(100) - 20))
	}
}

// mail is any, with lists of any length, which need not fit together.
func (x *dice) mail() (m api.Mail) {
	x.fill(reflect.ValueOf(&m).Elem())
	return m
}

// boxes are any that may be.
func (x *dice) boxes() (l []api.Box) {
	for device := x.roll(4); device < 20; device += 1 + x.roll(5) {
		b := api.Box{Device: device, Out: x.roll(3) == 0, Done: x.one(0, 1, 2, 5, most-1, most)}
		for range x.roll(3) {
			b.Mail = append(b.Mail, x.mail())
		}
		l = append(l, b)
	}
	return l
}

// cards are any that may be.
func (x *dice) cards() (l []api.Card) {
	for user := x.roll(5); user < 64; user += 1 + x.roll(20) {
		l = append(l, api.Card{User: user, Epoch: x.one(0, 1, 7, math.MaxInt), Pub: x.one(1, 2, 9, math.MaxInt)})
	}
	return l
}

// tree is one that may be, with members among the given ones, in any order; some have come and gone, and some have
// given new keys to those above them.
func (x *dice) tree(members []int) (t api.Tree) {
	for range x.roll(12) {
		m := x.one(members...)
		if next, _, e := tree.Add(t, api.Add{Member: m, Epoch: x.roll(3), Pub: 1 + x.roll(50)}); e == api.OK {
			t = next
		} else if next, e := tree.Remove(t, m); e == api.OK && x.roll(2) == 0 {
			t = next
		}
		if leaf := tree.Find(t, m); leaf >= 0 && x.roll(3) == 0 {
			nodes, _ := tree.Path(t, leaf)
			t, _ = tree.SetPath(t, leaf, 0, 1+x.roll(50), slices.Repeat([]int{60}, len(nodes)))
		}
	}
	return t
}

// plainSettle is the chapter's words: each device is asked for, from the first one on.
func plainSettle(l []api.Box, before, behind []int, m api.Mail) (next []api.Box) {
	for device := range 512 {
		there := slices.IndexFunc(l, func(b api.Box) bool { return b.Device == device })
		concerned := slices.Contains(before, device) || slices.Contains(behind, device)
		if there < 0 && !concerned {
			continue
		}
		b := api.Box{Device: device}
		if there >= 0 {
			b = l[there]
		}
		if concerned && !b.Out {
			b = with(b, m)
		}
		if concerned && !slices.Contains(behind, device) {
			b.Out = true
		}
		next = append(next, b)
	}
	return next
}

// leavesOf is the members of a tree as its nodes have them.
func leavesOf(t api.Tree) (members []int) {
	for i, n := range t.Nodes {
		if i%2 == 0 && n.Pub > 0 {
			members = append(members, n.Member)
		}
	}
	return members
}

func plainDevices(l []api.Box, user int) (own []int) {
	for i := range 8 {
		for _, b := range l {
			if b.Device == 8*user+i && !b.Out {
				own = append(own, b.Device)
			}
		}
	}
	return own
}

func agree(t *testing.T, l []api.Box, user int) {
	t.Helper()
	got, e := roster.Devices(l, user)
	same(t, "Devices", got, plainDevices(l, user))
	if e != api.OK {
		t.Fatal(e)
	}
}

// TestP165Plays: accounts go on from tree to tree, at any boxes, and are held against the chapter's words at each step.
func TestP165Plays(t *testing.T) {
	x := dice(165)
	for range 60 {
		var l []api.Box
		if x.roll(2) == 0 {
			l = x.boxes()
		}
		var at api.Tree
		first := x.one(0, 8, 16, 504)
		own := []int{first, first + 1, first + 2, first + 3, first + 4, first + 5, first + 6, first + 7}
		if x.roll(4) == 0 {
			own = []int{0, 511, 17, 3, 8, 100, 99, 4, 5, 6}
		}
		for range 15 {
			behind, m := x.tree(own), x.mail()
			want := plainSettle(l, leavesOf(at), leavesOf(behind), m)
			got := settle(t, l, at, behind, m)
			same(t, "Settle", got, want)
			agree(t, got, first/8)
			agree(t, got, x.roll(64))
			l, at = got, behind
		}
	}
}

// TestP165Cards: any row of cards is kept, of each user the last one.
func TestP165Cards(t *testing.T) {
	x := dice(1650)
	for range 100 {
		l := x.cards()
		last := map[int]api.Card{}
		for _, c := range l {
			last[c.User] = c
		}
		few := 1 + x.roll(70)
		for range 60 {
			c := api.Card{User: x.roll(few) - 1, Epoch: x.roll(30) - 1, Pub: x.roll(30)}
			if c.User < 0 || c.User > 63 || c.Epoch < 0 || c.Pub < 1 {
				unset(t, "any", l, c)
				continue
			}
			l = set(t, l, c)
			last[c.User] = c
			if len(l) != len(last) {
				t.Fatal(len(l), len(last))
			}
			for user := -2; user < 67; user++ {
				want, there := last[user]
				if got, ok := roster.Card(l, user); got != want || ok != there {
					t.Fatal(user, got, ok, want)
				}
			}
		}
	}
}

// boxWords, cardWords: may they be, as the chapters say it?
func boxWords(l []api.Box) bool {
	ok := true
	for i, b := range l {
		ok = ok && b.Device >= 0 && b.Device <= 511 && b.Done >= 0 && b.Done <= most
		for _, c := range l[:i] {
			ok = ok && c.Device < b.Device
		}
	}
	return ok
}

func cardWords(l []api.Card) bool {
	ok := true
	for i, c := range l {
		ok = ok && c.User >= 0 && c.User <= 63 && c.Epoch >= 0 && c.Pub >= 1
		for _, d := range l[:i] {
			ok = ok && d.User < c.User
		}
	}
	return ok
}

// spoil changes a number now and then.
func (x *dice) spoil(n *int, often int) {
	if x.roll(often) == 0 {
		*n += x.one(-1, 1, -20, 20, 64, 512, math.MinInt, math.MaxInt)
	}
}

func (x *dice) oddBoxes() []api.Box {
	l := x.boxes()
	for i := range l {
		x.spoil(&l[i].Device, 30)
		x.spoil(&l[i].Done, 60)
	}
	return l
}

func (x *dice) oddTree() api.Tree {
	t := x.tree([]int{0, 1, 2, 3, 8, 9, 511, 510 + x.roll(4)})
	for i := range t.Nodes {
		x.spoil(&t.Nodes[i].Pub, 60)
		x.spoil(&t.Nodes[i].Member, 60)
		x.spoil(&t.Nodes[i].Epoch, 100)
	}
	if x.roll(12) == 0 {
		t.Nodes = t.Nodes[:x.roll(len(t.Nodes)+1)]
	}
	return t
}

// TestP163Any holds Settle and Devices against the words at boxes and trees of which some numbers are anything. (R1 too: none panics.)
func TestP163Any(t *testing.T) {
	x := dice(163)
	good, bad := 0, 0
	for range 3000 {
		l, before, behind := x.oddBoxes(), x.oddTree(), x.oddTree()
		user := x.roll(70) - 3
		may := boxWords(l)
		got, e := roster.Devices(l, user)
		if may && user >= 0 && user < 64 {
			same(t, "Devices", got, plainDevices(l, user))
			if e != api.OK {
				t.Fatal(e)
			}
		} else if e != api.ErrArg || len(got) != 0 {
			t.Fatal(user, got, e)
		}
		for _, at := range []api.Tree{before, behind} {
			far := slices.ContainsFunc(leavesOf(at), func(m int) bool { return m > 511 })
			may = may && tree.Check(at) == api.OK && !far
		}
		if !may {
			bad++
			unsettled(t, "any", l, before, behind)
			continue
		}
		good++
		same(t, "Settle", settle(t, l, before, behind, no(3)), plainSettle(l, leavesOf(before), leavesOf(behind), no(3)))
	}
	if good < 500 || bad < 500 {
		t.Error(good, bad)
	}
}

// TestP164Any holds Card and SetCard against the words at cards of which some numbers are anything.
func TestP164Any(t *testing.T) {
	x := dice(164)
	good, bad := 0, 0
	for range 5000 {
		l, c := x.cards(), api.Card{User: x.roll(64), Epoch: x.roll(3), Pub: 1 + x.roll(3)}
		for i := range l {
			x.spoil(&l[i].User, 20)
			x.spoil(&l[i].Epoch, 40)
			x.spoil(&l[i].Pub, 40)
		}
		x.spoil(&c.User, 10)
		x.spoil(&c.Epoch, 10)
		x.spoil(&c.Pub, 10)
		at := slices.IndexFunc(l, func(d api.Card) bool { return d.User == c.User })
		got, ok := roster.Card(l, c.User)
		if ok != (cardWords(l) && at >= 0) || ok && got != l[at] || !ok && got != (api.Card{}) {
			t.Fatal(c.User, got, ok)
		}
		if !cardWords(l) || !cardWords([]api.Card{c}) {
			bad++
			unset(t, "any", l, c)
			continue
		}
		good++
		want := slices.DeleteFunc(slices.Clone(l), func(d api.Card) bool { return d.User == c.User })
		want = append(want, c)
		slices.SortFunc(want, func(a, b api.Card) int { return a.User - b.User })
		same(t, "SetCard", set(t, l, c), want)
	}
	if good < 500 || bad < 500 {
		t.Error(good, bad)
	}
}

// TestP165MayBe: what is answered may be, and can be handed on.
func TestP165MayBe(t *testing.T) {
	x := dice(1651)
	var l []api.Box
	var c []api.Card
	var at api.Tree
	for range 120 {
		device := x.roll(512)
		behind := x.tree([]int{device, (device + 1) % 512, (device + 9) % 512})
		l, at = settle(t, l, at, behind, no(device)), behind
		user, e := roster.User(device)
		if e != api.OK {
			t.Fatal(e)
		}
		c = set(t, c, api.Card{User: user, Epoch: device, Pub: device + 1})
		if post.Check(l) != api.OK || !boxWords(l) || !cardWords(c) {
			t.Fatal(l, c)
		}
	}
}
