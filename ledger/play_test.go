package ledger_test

import (
	"math"
	"reflect"
	"slices"
	"testing"

	"phratry/api"
	"phratry/ledger"
	"phratry/tree"
)

// dice tells the same row of numbers at every run.
type dice uint64

func (x *dice) roll(n int) int {
	*x = *x*6364136223846793005 + 1442695040888963407
	return int(uint64(*x) >> 33 % uint64(n))
}

func (x *dice) one(l []int) int { return l[x.roll(len(l))] }

// tree is any of one to eight members, with keys at some parents, and unmerged leaves below these.
func (x *dice) tree() (t api.Tree) {
	for range 1 + x.roll(9) {
		switch x.roll(4) {
		case 0:
			if m := tree.Members(t); len(m) > 1 {
				t, _ = tree.Remove(t, x.one(m))
			}
		case 1:
			if leaf := x.roll(8); leaf < tree.Size(t) {
				nodes, _ := tree.Path(t, leaf)
				if next, e := tree.SetPath(t, leaf, x.roll(3), 1+x.roll(9), slices.Repeat([]int{1 + x.roll(9)}, len(nodes))); e == api.OK {
					t = next
				}
			}
		default:
			if next, _, e := tree.Add(t, api.Add{Member: x.roll(12), Epoch: x.roll(3), Pub: 1 + x.roll(9)}); e == api.OK {
				t = next
			}
		}
	}
	if len(t.Nodes) == 0 {
		return leaves(x.roll(12))
	}
	return t
}

// commit is any that may be taken, with anything in its other fields.
func (x *dice) commit(group, epoch int) api.Commit {
	c := full(group, epoch, x.roll(1000))
	c.Next = x.tree()
	return c
}

// logs are any that may be.
func (x *dice) logs() (l []api.Log) {
	group := x.roll(5) - 3
	for range x.roll(5) {
		log := api.Log{Group: group}
		for k := range 1 + x.roll(4) {
			log.Commits = append(log.Commits, x.commit(group, k))
		}
		l = append(l, log)
		group += 1 + x.roll(3)
	}
	return l
}

// plain is the chapter's words: all commits that were taken, in the order in which they came.
type plain []api.Commit

// log is what was taken of a group.
func (p plain) log(group int) (l []api.Commit) {
	for _, c := range p {
		if c.Group == group {
			l = append(l, c)
		}
	}
	return l
}

// logs are all of them, by their groups.
func (p plain) logs() (l []api.Log) {
	var groups []int
	for _, c := range p {
		groups = append(groups, c.Group)
	}
	slices.Sort(groups)
	for _, g := range slices.Compact(groups) {
		l = append(l, api.Log{Group: g, Commits: p.log(g)})
	}
	return l
}

// touched is who of all that there ever are is in one of two trees, asked for one by one.
func (p plain) touched(group, epoch int) (l []int) {
	log := p.log(group)
	for _, m := range []int{0, 1, 2, 3, 4, 5, 6, 7, 8, 9, 10, 11, math.MaxInt} {
		if tree.Find(log[epoch].Next, m) >= 0 || epoch > 0 && tree.Find(log[epoch-1].Next, m) >= 0 {
			l = append(l, m)
		}
	}
	return l
}

func (p plain) answer(c api.Commit) api.Errno {
	switch log := p.log(c.Group); {
	case c.Epoch < 0 || len(c.Next.Nodes) == 0 || tree.Check(c.Next) != api.OK:
		return api.ErrArg
	case c.Epoch != len(log):
		return api.ErrStale
	case len(log) == 0 && len(p.logs()) == 16:
		return api.ErrLimit
	}
	return api.OK
}

// agree: do logs answer as the plain ones?
func agree(t *testing.T, l []api.Log, p plain, group int) {
	t.Helper()
	log := p.log(group)
	if n := ledger.Len(l, group); n != len(log) {
		t.Fatal("Len", group, n)
	}
	for epoch := -1; epoch <= len(log); epoch++ {
		c, ok := ledger.Get(l, group, epoch)
		who, is := ledger.Touched(l, group, epoch)
		if there := epoch >= 0 && epoch < len(log); ok != there || is != there {
			t.Fatal(group, epoch, ok, is)
		}
		if !ok {
			same(t, "Get", c, api.Commit{})
			same(t, "Touched", who, []int{})
			continue
		}
		same(t, "Get", c, log[epoch])
		same(t, "Touched", who, p.touched(group, epoch))
	}
	c, ok := ledger.Last(l, group)
	if ok != (len(log) > 0) {
		t.Fatal("Last", group, ok)
	}
	if ok {
		same(t, "Last", c, log[len(log)-1])
	}
}

// TestP145Plays holds any row of Appends against the chapter's words.
func TestP145Plays(t *testing.T) {
	x := dice(145)
	for range 30 {
		var l []api.Log
		var p plain
		// From few groups, which have long logs, to more than there may be.
		groups := 1 + x.roll(24)
		for range 20 + 4*groups {
			group := x.roll(groups) - groups/2
			c := x.commit(group, len(p.log(group)))
			switch x.roll(12) {
			case 0:
				c.Epoch += x.one([]int{-1, 1, 2, math.MaxInt, math.MinInt, -c.Epoch})
			case 1:
				c.Next.Nodes = c.Next.Nodes[:x.roll(len(c.Next.Nodes))]
			}
			next, e := ledger.Append(l, c)
			if want := p.answer(c); e != want {
				t.Fatal(c.Group, c.Epoch, e, want)
			}
			if e == api.OK {
				p, l = append(p, c), next
				// Of two of one group and epoch the second one is never taken.
				refused(t, "twice", l, x.commit(c.Group, c.Epoch), api.ErrStale)
			} else if len(next) != 0 {
				t.Fatal(e, next)
			}
			same(t, "logs", l, p.logs())
			if e := ledger.Check(l); e != api.OK {
				t.Fatal(e)
			}
			agree(t, l, p, group)
			agree(t, l, p, x.roll(30)-15)
		}
	}
}

// odd changes some of the numbers in something, and the lengths of some lists.
func (x *dice) odd(v reflect.Value, thin int) {
	switch v.Kind() {
	case reflect.Struct:
		for i := range v.NumField() {
			x.odd(v.Field(i), thin)
		}
	case reflect.Slice:
		if x.roll(thin) == 0 {
			v.Set(v.Slice(0, x.roll(v.Len()+1)))
		}
		if x.roll(thin) == 0 {
			v.Set(reflect.Append(v, reflect.Zero(v.Type().Elem())))
			x.odd(v.Index(v.Len()-1), 2)
		}
		for i := range v.Len() {
			x.odd(v.Index(i), thin)
		}
	case reflect.Int:
		if x.roll(thin) == 0 {
			v.SetInt(int64(x.one([]int{math.MinInt, -1, 0, 1, 2, 3, 4, math.MaxInt})))
		}
	}
}

// words: may logs be, as the chapter says it?
func words(l []api.Log) bool {
	ok := len(l) <= 16
	for i, log := range l {
		ok = ok && (i == 0 || l[i-1].Group < log.Group) && len(log.Commits) > 0
		for k, c := range log.Commits {
			ok = ok && c.Group == log.Group && c.Epoch == k && tree.Check(c.Next) == api.OK && tree.Size(c.Next) > 0
		}
	}
	return ok
}

// flat is all commits of logs.
func flat(l []api.Log) (p plain) {
	for _, log := range l {
		p = append(p, log.Commits...)
	}
	return p
}

// TestP141AnyLogs holds all calls against the words at logs of which some numbers and lengths are anything. (R1 too: none panics.)
func TestP141AnyLogs(t *testing.T) {
	x := dice(141)
	good, bad := 0, 0
	for range 3000 {
		l := x.logs()
		x.odd(reflect.ValueOf(&l).Elem(), x.one([]int{3, 30, 100, 300, 1000}))
		c := x.commit(x.roll(8)-3, x.roll(5))
		x.odd(reflect.ValueOf(&c).Elem(), x.one([]int{30, 100, 1000}))
		next, e := ledger.Append(l, c)
		if !words(l) {
			bad++
			if ledger.Check(l) != api.ErrArg || e != api.ErrArg || len(next) != 0 {
				t.Fatal(l, e)
			}
			for group := -3; group < 8; group++ {
				agree(t, l, nil, group)
			}
			continue
		}
		good++
		if ledger.Check(l) != api.OK {
			t.Fatal(l)
		}
		p := flat(l)
		if want := p.answer(c); e != want {
			t.Fatal(c.Group, c.Epoch, e, want)
		}
		for group := -3; group < 8; group++ {
			agree(t, l, p, group)
		}
		if e == api.OK {
			same(t, "Append", next, append(p, c).logs())
		}
	}
	if good < 500 || bad < 500 {
		t.Error(good, bad)
	}
}
