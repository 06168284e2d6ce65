package ledger_test

import (
	"fmt"
	"math"
	"slices"
	"testing"

	"phratry/api"
	"phratry/ledger"
	"phratry/tree"
)

// leaves is a tree whose leaves have these members, from the left.
func leaves(members ...int) (t api.Tree) {
	for i, m := range members {
		t, _, _ = tree.Add(t, api.Add{Member: m, Pub: 1 + i})
	}
	return t
}

func commit(group, epoch int, members ...int) api.Commit {
	return api.Commit{Group: group, Epoch: epoch, Next: leaves(members...)}
}

// log is one of a group with so many commits, that of the epoch k with the members 10 k and 10 k + 1.
func log(group, many int) api.Log {
	l := api.Log{Group: group}
	for k := range many {
		l.Commits = append(l.Commits, commit(group, k, 10*k, 10*k+1))
	}
	return l
}

// row is so many logs of one commit each, of the groups 0, 10, 20 ..
func row(many int) (l []api.Log) {
	for i := range many {
		l = append(l, log(10*i, 1))
	}
	return l
}

// tell is the same of an empty list and of none.
func tell(x any) string { return fmt.Sprintf("%+v", x) }

func same(t *testing.T, what string, got, want any) {
	t.Helper()
	if tell(got) != tell(want) {
		t.Errorf("%s: %+v, not %+v", what, got, want)
	}
}

func taken(t *testing.T, l []api.Log, c api.Commit) []api.Log {
	t.Helper()
	next, e := ledger.Append(l, c)
	if e != api.OK {
		t.Fatal(c.Group, c.Epoch, e)
	}
	return next
}

func refused(t *testing.T, what string, l []api.Log, c api.Commit, want api.Errno) {
	t.Helper()
	before := tell(l)
	next, e := ledger.Append(l, c)
	if e != want || len(next) != 0 || tell(l) != before {
		t.Error(what, e, next)
	}
}

// badTrees are some with which no commit is taken.
func badTrees() map[string]api.Tree {
	leaf := func(pub, member int) api.Node { return api.Node{Pub: pub, Member: member} }
	nodes := func(l ...api.Node) api.Tree { return api.Tree{Nodes: l} }
	return map[string]api.Tree{
		"no nodes":          {},
		"a blank leaf":      nodes(api.Node{}),
		"two nodes":         nodes(leaf(1, 5), api.Node{}),
		"one member twice":  nodes(leaf(1, 5), api.Node{}, leaf(2, 5)),
		"a member below 0":  nodes(leaf(1, -1)),
		"a pub below 1":     nodes(leaf(-1, 5)),
		"right half blank":  nodes(leaf(1, 5), api.Node{}, api.Node{}),
		"a parent's member": nodes(leaf(1, 5), leaf(3, 1), leaf(2, 6)),
		"sixteen leaves":    {Nodes: slices.Repeat(leaves(1).Nodes, 31)},
	}
}

// badLogs are some that may not be: most have something of the group 3.
func badLogs() map[string][]api.Log {
	bad := map[string][]api.Log{
		"one too many":               append(row(16), log(1000, 1)),
		"a group twice":              {log(3, 1), log(3, 1)},
		"falling":                    {log(4, 1), log(3, 1)},
		"falling behind rising ones": {log(1, 1), log(3, 2), log(2, 1)},
		"the lowest one last":        {log(3, 1), log(math.MinInt, 1)},
		"no commits":                 {{Group: 3}},
		"no commits of another one":  {log(3, 1), {Group: 4}},
		"no commits of the first":    {{Group: -1, Commits: []api.Commit{}}, log(3, 1)},
		"another group's":            {{Group: 3, Commits: []api.Commit{commit(4, 0, 1)}}},
		"another group's last":       {{Group: 3, Commits: []api.Commit{commit(3, 0, 1), commit(3, 1, 1), commit(2, 2, 1)}}},
		"begins with 1":              {{Group: 3, Commits: []api.Commit{commit(3, 1, 1)}}},
		"begins with -1":             {{Group: 3, Commits: []api.Commit{commit(3, -1, 1), commit(3, 0, 1)}}},
		"0 twice":                    {{Group: 3, Commits: []api.Commit{commit(3, 0, 1), commit(3, 0, 1)}}},
		"1 twice":                    {{Group: 3, Commits: []api.Commit{commit(3, 0, 1), commit(3, 1, 1), commit(3, 1, 1)}}},
		"1 left out":                 {{Group: 3, Commits: []api.Commit{commit(3, 0, 1), commit(3, 2, 1)}}},
		"1 ahead of 0":               {{Group: 3, Commits: []api.Commit{commit(3, 1, 1), commit(3, 0, 1)}}},
		"ends with the most":         {{Group: 3, Commits: []api.Commit{commit(3, 0, 1), commit(3, math.MaxInt, 1)}}},
	}
	for what, at := range badTrees() {
		first, last := log(3, 3), log(5, 3)
		first.Commits[0].Next, last.Commits[2].Next = at, at
		bad[what+" first"] = []api.Log{first}
		bad[what+" last"] = []api.Log{log(3, 1), last}
	}
	return bad
}

func TestP141Check(t *testing.T) {
	for what, l := range map[string][]api.Log{
		"none":             nil,
		"none, with room":  make([]api.Log, 0, 4),
		"one":              {log(3, 1)},
		"one of many":      {log(3, 40)},
		"several":          {log(-5, 2), log(-1, 1), log(0, 3), log(1, 1)},
		"side by side":     {log(3, 1), log(4, 1)},
		"far apart":        {log(math.MinInt, 1), log(0, 1), log(math.MaxInt, 1)},
		"as many as go":    row(16),
		"the most members": {{Group: 3, Commits: []api.Commit{commit(3, 0, 9, 8, 7, 6, 5, 4, 3, 2)}}},
	} {
		if e := ledger.Check(l); e != api.OK {
			t.Error(what, e)
		}
	}
	for what, l := range badLogs() {
		if e := ledger.Check(l); e != api.ErrArg {
			t.Error(what, e)
		}
	}
}

// full is a commit that has something in all fields that are not looked at, none of it sensible.
func full(group, epoch, n int, members ...int) api.Commit {
	c := commit(group, epoch, members...)
	c.By, c.Member, c.KeyEpoch, c.External = -n-1, n+2, -n-3, n%2 == 0
	c.Adds = []api.Add{{Member: -n, Epoch: -n, Pub: -n}, {Member: n}}
	c.Removes = []int{n, n, -n}
	c.Seals = []api.Seal{{At: -n, To: n, Term: -n}}
	c.Joins = []api.Join{{Member: n, Term: -n}, {}}
	c.Own, c.Entry, c.Face, c.Card = -n-4, -n-5, -n-6, -n-7
	return c
}

func TestP141OtherFields(t *testing.T) {
	l := []api.Log{{Group: 3, Commits: []api.Commit{full(3, 0, 5, 1), full(3, 1, math.MinInt, 2)}}}
	if e := ledger.Check(l); e != api.OK {
		t.Error(e)
	}
	same(t, "Append", taken(t, nil, l[0].Commits[0]), []api.Log{{Group: 3, Commits: l[0].Commits[:1]}})
	same(t, "Append", taken(t, taken(t, nil, l[0].Commits[0]), l[0].Commits[1]), l)
	for k, c := range l[0].Commits {
		got, ok := ledger.Get(l, 3, k)
		same(t, "Get", got, c)
		if !ok {
			t.Error(k)
		}
	}
}

func TestP142LenGetLast(t *testing.T) {
	l := []api.Log{log(math.MinInt, 2), log(-7, 1), log(3, 4), log(5, 1), log(math.MaxInt, 3)}
	many := map[int]int{math.MinInt: 2, -7: 1, 3: 4, 5: 1, math.MaxInt: 3}
	for _, group := range []int{math.MinInt, math.MinInt + 1, -8, -7, -6, -1, 0, 2, 3, 4, 5, 6, math.MaxInt - 1, math.MaxInt} {
		if n := ledger.Len(l, group); n != many[group] {
			t.Error("Len", group, n)
		}
		for _, epoch := range []int{math.MinInt, -2, -1, 0, 1, 2, 3, 4, 5, 1 << 32, math.MaxInt} {
			c, ok := ledger.Get(l, group, epoch)
			if ok != (epoch >= 0 && epoch < many[group]) {
				t.Error("Get", group, epoch, ok)
			}
			want := api.Commit{}
			if ok {
				want = commit(group, epoch, 10*epoch, 10*epoch+1)
			}
			same(t, "Get", c, want)
		}
		c, ok := ledger.Last(l, group)
		want := api.Commit{}
		if n := many[group]; n > 0 {
			want = commit(group, n-1, 10*n-10, 10*n-9)
		}
		if ok != (many[group] > 0) {
			t.Error("Last", group, ok)
		}
		same(t, "Last", c, want)
	}
}

// TestP142EachPlace: each of any number of logs is found, and none between them.
func TestP142EachPlace(t *testing.T) {
	for many := range 17 {
		l := row(many)
		for group := -10; group <= 170; group += 5 {
			there := 0
			if group >= 0 && group < 10*many && group%10 == 0 {
				there = 1
			}
			if n := ledger.Len(l, group); n != there {
				t.Error(many, group, n)
			}
			if c, ok := ledger.Last(l, group); ok != (there == 1) || ok && c.Group != group {
				t.Error(many, group, ok, c.Group)
			}
		}
	}
}

func TestP142Wrong(t *testing.T) {
	for what, l := range badLogs() {
		for _, group := range []int{3, 4, 5, 0} {
			if n := ledger.Len(l, group); n != 0 {
				t.Error(what, n)
			}
			c, ok := ledger.Get(l, group, 0)
			d, last := ledger.Last(l, group)
			if ok || last {
				t.Error(what, ok, last)
			}
			same(t, what, c, api.Commit{})
			same(t, what, d, api.Commit{})
		}
	}
}

func TestP143Append(t *testing.T) {
	var l []api.Log
	for _, c := range []api.Commit{commit(3, 0, 1, 2), commit(3, 1, 5), commit(-1, 0, 0), commit(9, 0, 4), commit(4, 0, 4), commit(-1, 1, 7), commit(9, 1, 6), commit(4, 1, 2), commit(4, 2, 3)} {
		l = taken(t, l, c)
	}
	same(t, "all", l, []api.Log{
		{Group: -1, Commits: []api.Commit{commit(-1, 0, 0), commit(-1, 1, 7)}},
		{Group: 3, Commits: []api.Commit{commit(3, 0, 1, 2), commit(3, 1, 5)}},
		{Group: 4, Commits: []api.Commit{commit(4, 0, 4), commit(4, 1, 2), commit(4, 2, 3)}},
		{Group: 9, Commits: []api.Commit{commit(9, 0, 4), commit(9, 1, 6)}},
	})
}

// TestP143FirstPlace: a new log comes to its place, ahead of, between and behind any number of others.
func TestP143FirstPlace(t *testing.T) {
	for many := range 16 {
		for group := -5; group <= 10*many; group += 10 {
			l := row(many)
			want := slices.Insert(row(many), (group+5)/10, log(group, 1))
			same(t, "new", taken(t, l, commit(group, 0, 0, 1)), want)
		}
		for at := range many {
			l, want := row(many), row(many)
			want[at] = log(10*at, 2)
			same(t, "one more", taken(t, l, commit(10*at, 1, 10, 11)), want)
		}
	}
	for _, group := range []int{math.MinInt, math.MaxInt} {
		l := taken(t, []api.Log{log(0, 1)}, commit(group, 0, 1))
		if ledger.Len(l, group) != 1 || ledger.Len(l, 0) != 1 || ledger.Check(l) != api.OK {
			t.Error(group, l)
		}
	}
}

func TestP143Wrong(t *testing.T) {
	for what, l := range badLogs() {
		refused(t, what, l, commit(3, 0, 1), api.ErrArg)
		refused(t, what, l, commit(3, 1, 1), api.ErrArg)
		refused(t, what, l, commit(6, 7, 1), api.ErrArg)
	}
	l := []api.Log{log(3, 2), log(5, 1)}
	for what, at := range badTrees() {
		for epoch := -1; epoch <= 3; epoch++ {
			for group := 2; group <= 6; group++ {
				refused(t, what, l, api.Commit{Group: group, Epoch: epoch, Next: at}, api.ErrArg)
			}
		}
		refused(t, what, row(16), api.Commit{Group: 1, Next: at}, api.ErrArg)
	}
	for _, group := range []int{2, 3, 4, 5, 6} {
		refused(t, "below 0", l, commit(group, -1, 1), api.ErrArg)
		refused(t, "far below 0", l, commit(group, math.MinInt, 1), api.ErrArg)
		for _, epoch := range []int{0, 1, 2, 3, 4, math.MaxInt} {
			if epoch != ledger.Len(l, group) {
				refused(t, "another epoch", l, commit(group, epoch, 1), api.ErrStale)
			}
		}
	}
}

func TestP143Limit(t *testing.T) {
	l := row(16)
	for _, group := range []int{math.MinInt, -1, 1, 75, 149, 151, math.MaxInt} {
		refused(t, "a log more", l, commit(group, 0, 1), api.ErrLimit)
		refused(t, "stale ahead of the limit", l, commit(group, 1, 1), api.ErrStale)
		refused(t, "wrong ahead of the limit", l, commit(group, -1, 1), api.ErrArg)
		refused(t, "without nodes", l, api.Commit{Group: group}, api.ErrArg)
	}
	for _, group := range []int{0, 70, 150} {
		refused(t, "there already", l, commit(group, 0, 1), api.ErrStale)
		if next := taken(t, l, commit(group, 1, 1)); ledger.Len(next, group) != 2 || len(next) != 16 {
			t.Error(group, next)
		}
	}
	if next := taken(t, row(15), commit(-1, 0, 1)); len(next) != 16 {
		t.Error(next)
	}
}

func TestP144Touched(t *testing.T) {
	l := []api.Log{log(-1, 1), {Group: 3, Commits: []api.Commit{
		commit(3, 0, 2, 1), commit(3, 1, 5, 2), commit(3, 2, 5, 2), commit(3, 3, 40, 30, 20, 10), commit(3, 4, 7), commit(3, 5, 8, 7, 6, 5, 4, 3, 2, 1),
		commit(3, 6, 16, 15, 14, 13, 12, 11, 10, 9), commit(3, 7, math.MaxInt, 0),
	}}, log(4, 2)}
	for epoch, want := range [][]int{{1, 2}, {1, 2, 5}, {2, 5}, {2, 5, 10, 20, 30, 40}, {7, 10, 20, 30, 40}, {1, 2, 3, 4, 5, 6, 7, 8},
		{1, 2, 3, 4, 5, 6, 7, 8, 9, 10, 11, 12, 13, 14, 15, 16}, {0, 9, 10, 11, 12, 13, 14, 15, 16, math.MaxInt}} {
		if got, ok := ledger.Touched(l, 3, epoch); !ok || !slices.Equal(got, want) {
			t.Error(epoch, got, ok)
		}
	}
	for _, x := range []struct{ group, epoch int }{{3, 8}, {3, -1}, {3, math.MaxInt}, {3, math.MinInt}, {2, 0}, {5, 0}, {-1, 1}, {4, 2}, {-2, 0}} {
		if got, ok := ledger.Touched(l, x.group, x.epoch); ok || len(got) != 0 {
			t.Error(x, got, ok)
		}
	}
	if got, ok := ledger.Touched(l, -1, 0); !ok || !slices.Equal(got, []int{0, 1}) {
		t.Error(got, ok)
	}
	if got, ok := ledger.Touched(l, 4, 1); !ok || !slices.Equal(got, []int{0, 1, 10, 11}) {
		t.Error(got, ok)
	}
}

// TestP144Blank: blank leaves and the parents' numbers are nobody's.
func TestP144Blank(t *testing.T) {
	at, e := tree.SetPath(leaves(5, 6, 7, 8), 0, 3, 9, []int{10, 11})
	if e != api.OK {
		t.Fatal(e)
	}
	less, e := tree.Remove(at, 6)
	if e != api.OK {
		t.Fatal(e)
	}
	l := taken(t, taken(t, nil, api.Commit{Next: at}), api.Commit{Epoch: 1, Next: less})
	l = taken(t, l, api.Commit{Epoch: 2, Next: less})
	for epoch, want := range [][]int{{5, 6, 7, 8}, {5, 6, 7, 8}, {5, 7, 8}} {
		if got, ok := ledger.Touched(l, 0, epoch); !ok || !slices.Equal(got, want) {
			t.Error(epoch, got, ok)
		}
	}
}

func TestP144Wrong(t *testing.T) {
	for what, l := range badLogs() {
		for _, group := range []int{0, 3, 4, 5} {
			for _, epoch := range []int{-1, 0, 1, 2} {
				if got, ok := ledger.Touched(l, group, epoch); ok || len(got) != 0 {
					t.Error(what, group, epoch, got)
				}
			}
		}
	}
}

func TestExamples(t *testing.T) {
	l := taken(t, nil, commit(3, 0, 1, 2))
	if len(l) != 1 {
		t.Error(l)
	}
	refused(t, "3 0 again", l, commit(3, 0, 1, 2), api.ErrStale)
	l = taken(t, l, commit(3, 1, 2, 5))
	if len(l) != 1 || len(l[0].Commits) != 2 {
		t.Error(l)
	}
	refused(t, "3 3", l, commit(3, 3, 1), api.ErrStale)
	l = taken(t, l, commit(-1, 0, 4))
	if len(l) != 2 || l[0].Group != -1 || l[1].Group != 3 {
		t.Error(l)
	}
	if ledger.Len(l, 3) != 2 || ledger.Len(l, 4) != 0 {
		t.Error("Len")
	}
	c, ok := ledger.Get(l, 3, 1)
	same(t, "Get", c, commit(3, 1, 2, 5))
	if _, more := ledger.Get(l, 3, 2); !ok || more {
		t.Error("Get", ok, more)
	}
	if got, ok := ledger.Touched(l, 3, 1); !ok || !slices.Equal(got, []int{1, 2, 5}) {
		t.Error(got, ok)
	}
}
