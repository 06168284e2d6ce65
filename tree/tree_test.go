package tree_test

import (
	"fmt"
	"math"
	"reflect"
	"slices"
	"strconv"
	"strings"
	"testing"

	"phratry/api"
	"phratry/tree"
)

// wild are numbers at the edges of int. Doubled, some of them come out as the node of a leaf.
var wild = []int{math.MinInt, math.MinInt + 1, math.MinInt + 3, -1 << 62, -1 << 32, -8, -2, -1, 1 << 32, 1 << 62, 1<<62 + 1, math.MaxInt/2 + 4, math.MaxInt - 1, math.MaxInt}

// told is a tree as the chapter writes it.
func told(t api.Tree) string {
	var l []string
	for i, n := range t.Nodes {
		switch {
		case n.Pub == 0:
			l = append(l, ".")
		case i%2 == 0:
			l = append(l, "m"+strconv.Itoa(n.Member))
		case len(n.Unmerged) == 0:
			l = append(l, "P")
		default:
			l = append(l, "P{"+strings.Trim(fmt.Sprint(n.Unmerged), "[]")+"}")
		}
	}
	return strings.Join(l, " ")
}

// read is a tree that the chapter's writing tells: of the node at the place i, Pub is 10 + i; of a leaf, Epoch is i, too.
// A parent's unmerged leaves stand with commas between them.
func read(s string) api.Tree {
	var t api.Tree
	for i, word := range strings.Fields(s) {
		n := api.Node{}
		if word != "." {
			n.Pub = 10 + i
		}
		switch word[0] {
		case 'm':
			n.Member, _ = strconv.Atoi(word[1:])
			n.Epoch = i
		case 'P':
			for _, leaf := range strings.Split(strings.Trim(word, "P{}"), ",") {
				if number, e := strconv.Atoi(leaf); e == nil {
					n.Unmerged = append(n.Unmerged, number)
				}
			}
		}
		t.Nodes = append(t.Nodes, n)
	}
	return t
}

// same holds trees against each other: an empty list is as good as nil.
func same(a, b api.Tree) bool {
	return slices.EqualFunc(a.Nodes, b.Nodes, func(x, y api.Node) bool {
		return x.Pub == y.Pub && x.Member == y.Member && x.Epoch == y.Epoch && slices.Equal(x.Unmerged, y.Unmerged)
	})
}

// some are trees that may be; those at the end have parents that no member knows.
var some = []string{
	"",
	"m0",
	"m5",
	"m5 . m6",
	"m5 P m6",
	"m5 P{1} m6",
	"m5 P{0,1} m6",
	". . m0",
	". P{1} m6",
	"m5 . m6 . m7 . .",
	"m5 P m6 P{3} m7 . m8",
	"m5 P{1} m6 P{1,2,3} m7 P{3} m8",
	". . m0 . m9 . .",
	". . . . . . m0",
	". . . P . P m0",
	"m1 P m2 P m3 P m4 P m5 P m6 P m7 P m8",
	"m1 P{0} m2 P{1,3} m3 P{2,3} m4 P{0,2,4,7} m5 P m6 P{4,7} m7 P{7} m8",
	". . . . . . . . . . . . . . m3",
	"m3 . . P{0} . . . P{0,6} . . . . m4 P{6} .",
	". P . P . P . P m8 P . P{4} . P .",
	"m0 . . . . . . . m4 . . . . P .",
}

// none are trees that may not be.
func none() map[string]api.Tree {
	leaf := func(member int) api.Node { return api.Node{Pub: 1, Member: member} }
	parent := func(l ...int) api.Node { return api.Node{Pub: 1, Unmerged: l} }
	nodes := func(l ...api.Node) api.Tree { return api.Tree{Nodes: l} }
	wide := func(leaves int) api.Tree {
		t := api.Tree{Nodes: make([]api.Node, 2*leaves-1)}
		for i := range leaves {
			t.Nodes[2*i] = leaf(i)
		}
		return t
	}
	blank := api.Node{}
	return map[string]api.Tree{
		"two nodes":                  nodes(leaf(1), blank),
		"four nodes":                 nodes(leaf(1), blank, leaf(2), blank),
		"three leaves":               wide(3),
		"six leaves":                 wide(6),
		"seven leaves":               wide(7),
		"sixteen leaves":             wide(16),
		"eight leaves, one more":     nodes(append(wide(8).Nodes, blank)...),
		"eight leaves, one less":     nodes(wide(8).Nodes[:14]...),
		"one leaf, blank":            nodes(blank),
		"two leaves, blank":          nodes(blank, blank, blank),
		"two leaves, one parent":     nodes(blank, parent(), blank),
		"eight leaves, blank":        nodes(make([]api.Node, 15)...),
		"right half blank":           nodes(leaf(1), blank, blank),
		"right half blank, of four":  nodes(leaf(1), blank, leaf(2), blank, blank, blank, blank),
		"right half of parents":      nodes(leaf(1), blank, leaf(2), parent(), blank, parent(), blank),
		"one member twice":           nodes(leaf(1), blank, leaf(1)),
		"member 0 twice":             nodes(leaf(0), blank, leaf(0)),
		"twice, far off":             nodes(leaf(4), blank, leaf(3), blank, leaf(2), blank, leaf(4)),
		"twice, with other keys":     nodes(leaf(4), blank, api.Node{Pub: 2, Epoch: 3, Member: 4}),
		"a leaf's pub below 0":       nodes(api.Node{Pub: -1, Member: 1}),
		"a leaf's pub far below 0":   nodes(api.Node{Pub: math.MinInt}),
		"a leaf's member below 0":    nodes(leaf(-1)),
		"a leaf's epoch below 0":     nodes(api.Node{Pub: 1, Epoch: -1}),
		"a leaf with Unmerged":       nodes(parent(0)),
		"a right leaf with Unmerged": nodes(leaf(1), blank, api.Node{Pub: 1, Member: 2, Unmerged: []int{1}}),
		"a blank leaf's member":      nodes(api.Node{Member: 1}, blank, leaf(2)),
		"a blank leaf's epoch":       nodes(api.Node{Epoch: 1}, blank, leaf(2)),
		"a blank leaf's Unmerged":    nodes(api.Node{Unmerged: []int{1}}, blank, leaf(2)),
		"a blank leaf's below 0":     nodes(api.Node{Member: -1}, blank, leaf(2)),
		"a parent's pub below 0":     nodes(leaf(1), api.Node{Pub: -1}, leaf(2)),
		"a parent's member":          nodes(leaf(1), api.Node{Pub: 1, Member: 1}, leaf(2)),
		"a parent's member below 0":  nodes(leaf(1), api.Node{Pub: 1, Member: -1}, leaf(2)),
		"a parent's epoch":           nodes(leaf(1), api.Node{Pub: 1, Epoch: 1}, leaf(2)),
		"a parent's epoch below 0":   nodes(leaf(1), api.Node{Pub: 1, Epoch: -1}, leaf(2)),
		"a blank parent's member":    nodes(leaf(1), api.Node{Member: 3}, leaf(2)),
		"a blank parent's epoch":     nodes(leaf(1), api.Node{Epoch: 3}, leaf(2)),
		"a blank parent's Unmerged":  nodes(leaf(1), api.Node{Unmerged: []int{0}}, leaf(2)),
		"Unmerged falls":             nodes(leaf(1), parent(1, 0), leaf(2)),
		"Unmerged twice":             nodes(leaf(1), parent(1, 1), leaf(2)),
		"Unmerged twice, the first":  nodes(leaf(1), parent(0, 0, 1), leaf(2)),
		"Unmerged below 0":           nodes(leaf(1), parent(-1), leaf(2)),
		"Unmerged behind the last":   nodes(leaf(1), parent(2), leaf(2)),
		"Unmerged blank":             nodes(blank, parent(0), leaf(2)),
		"Unmerged on the right":      nodes(leaf(1), parent(2), leaf(2), blank, leaf(3), blank, leaf(4)),
		"Unmerged on the left":       nodes(leaf(1), blank, leaf(2), blank, leaf(3), parent(1, 2), leaf(4)),
		"Unmerged far up":            nodes(leaf(1), parent(math.MaxInt), leaf(2)),
		"Unmerged far down":          nodes(leaf(1), parent(math.MinInt), leaf(2)),
		"Unmerged wraps":             nodes(leaf(1), parent(math.MinInt+1), leaf(2)),
	}
}

func TestP81Check(t *testing.T) {
	for _, s := range some {
		if e := tree.Check(read(s)); e != api.OK {
			t.Errorf("Check(%s) = %d", s, e)
		}
	}
	for what, x := range none() {
		if e := tree.Check(x); e != api.ErrArg {
			t.Errorf("Check(%s) = %d", what, e)
		}
	}
	far := api.Tree{Nodes: []api.Node{{Pub: math.MaxInt, Member: math.MaxInt, Epoch: math.MaxInt, Unmerged: []int{}}}}
	empty := api.Tree{Nodes: []api.Node{{Unmerged: []int{}}, {Pub: math.MaxInt, Unmerged: []int{}}, {Pub: 1}}}
	for i, x := range []api.Tree{{}, {Nodes: []api.Node{}}, far, empty} {
		if e := tree.Check(x); e != api.OK {
			t.Errorf("%d: %d", i, e)
		}
	}
}

// words is the chapter's sentence on what may be, word by word.
func words(t api.Tree) bool {
	if len(t.Nodes) == 0 {
		return true
	}
	if !slices.Contains([]int{1, 3, 7, 15}, len(t.Nodes)) {
		return false
	}
	right, seen := false, map[int]int{}
	for i, n := range t.Nodes {
		if reflect.DeepEqual(n, api.Node{}) {
			continue
		}
		if n.Pub < 1 {
			return false
		}
		if i%2 == 0 {
			seen[n.Member]++
			right = right || len(t.Nodes) == 1 || i > len(t.Nodes)/2
			if n.Member < 0 || n.Epoch < 0 || n.Unmerged != nil || seen[n.Member] > 1 {
				return false
			}
			continue
		}
		below := map[int][2]int{1: {0, 1}, 3: {0, 3}, 5: {2, 3}}[i]
		for k, leaf := range n.Unmerged {
			if leaf < below[0] || leaf > below[1] || reflect.DeepEqual(t.Nodes[2*leaf], api.Node{}) || k > 0 && n.Unmerged[k-1] >= leaf {
				return false
			}
		}
		if n.Member != 0 || n.Epoch != 0 {
			return false
		}
	}
	return right
}

func TestP81EverySmallTree(t *testing.T) {
	leaves := []api.Node{{}, {Pub: 1}, {Pub: 2, Member: 1}, {Pub: 1, Member: -1}, {Member: 1}, {Pub: -1}, {Pub: 1, Epoch: 2, Member: 2}, {Pub: 1, Epoch: -1}, {Pub: 3, Unmerged: []int{0}}, {Epoch: 1}}
	parents := []api.Node{{}, {Pub: 1}, {Pub: -1}, {Pub: 1, Member: 1}, {Pub: 1, Epoch: 1}, {Unmerged: []int{1}}, {Pub: 1, Unmerged: []int{0}}, {Pub: 1, Unmerged: []int{1}}, {Pub: 1, Unmerged: []int{0, 1}}, {Pub: 1, Unmerged: []int{1, 0}}, {Pub: 1, Unmerged: []int{1, 1}}, {Pub: 1, Unmerged: []int{2}}, {Pub: 1, Unmerged: []int{-1}}}
	good, bad := 0, 0
	try := func(l ...api.Node) {
		x := api.Tree{Nodes: l}
		if got := tree.Check(x); got != api.OK == words(x) {
			t.Errorf("Check(%v) = %d", l, got)
		}
		if words(x) {
			good++
		} else {
			bad++
		}
	}
	for _, a := range leaves {
		try(a)
		for _, p := range parents {
			try(a, p)
			for _, b := range leaves {
				try(a, p, b)
			}
		}
	}
	over := []api.Node{{}, {Pub: 1}, {Pub: 1, Unmerged: []int{0, 3}}, {Pub: 1, Unmerged: []int{2, 3}}, {Pub: 1, Unmerged: []int{3, 2}}}
	for i := range 4 * 4 * 4 * 4 {
		for j := range 5 * 5 * 5 {
			at := func(k int) api.Node {
				return []api.Node{{}, {Pub: 1, Member: k}, {Pub: 1, Member: k, Epoch: 1}, {Pub: 1, Member: 1}}[i>>(2*k)%4]
			}
			try(at(0), over[j%5], at(1), over[j/5%5], at(2), over[j/25], at(3))
		}
	}
	if good < 1000 || bad < 1000 {
		t.Error(good, bad)
	}
}

func TestP82SizeMembersFind(t *testing.T) {
	for s, want := range map[string][]int{
		"":                                   {0},
		"m5":                                 {1, 5},
		". . m0":                             {2, 0},
		"m5 P{1} m6":                         {2, 5, 6},
		"m5 P m6 P{3} m7 . m8":               {4, 5, 6, 7, 8},
		". . m0 . m9 . .":                    {4, 0, 9},
		". . . . . . . . . . . . . . m3":     {8, 3},
		"m3 . . . m1 . m0 . . . m9 . m4 . .": {8, 3, 1, 0, 9, 4},
	} {
		x := read(s)
		if got := tree.Size(x); got != want[0] {
			t.Errorf("Size(%s) = %d", s, got)
		}
		if got := tree.Members(x); !slices.Equal(got, want[1:]) {
			t.Errorf("Members(%s) = %v", s, got)
		}
		for member := -1; member < 20; member++ {
			number := slices.IndexFunc(strings.Fields(s), func(w string) bool { return w == "m"+strconv.Itoa(member) })
			if number > 0 {
				number /= 2
			}
			if got := tree.Find(x, member); got != number {
				t.Errorf("Find(%s, %d) = %d", s, member, got)
			}
		}
		for _, member := range wild {
			if got := tree.Find(x, member); got != -1 {
				t.Errorf("Find(%s, %d) = %d", s, member, got)
			}
		}
	}
	for what, x := range none() {
		if tree.Size(x) != 0 || len(tree.Members(x)) != 0 {
			t.Error(what, tree.Size(x), tree.Members(x))
		}
		for member := -1; member < 5; member++ {
			if got := tree.Find(x, member); got != -1 {
				t.Error(what, member, got)
			}
		}
	}
}

func TestP83New(t *testing.T) {
	for _, a := range []api.Add{{Pub: 1}, {Member: 5, Epoch: 6, Pub: 7}, {Member: math.MaxInt, Epoch: math.MaxInt, Pub: math.MaxInt}} {
		x, e := tree.New(a)
		if e != api.OK || !same(x, api.Tree{Nodes: []api.Node{{Pub: a.Pub, Member: a.Member, Epoch: a.Epoch}}}) {
			t.Error(a, x, e)
		}
	}
	for _, a := range wrongAdds {
		if x, e := tree.New(a); e != api.ErrArg || x.Nodes != nil {
			t.Error(a, x, e)
		}
	}
}

var wrongAdds = []api.Add{
	{},
	{Member: 9},
	{Member: 9, Pub: -1},
	{Member: 9, Pub: math.MinInt},
	{Member: -1, Pub: 1},
	{Member: math.MinInt, Pub: 1},
	{Member: 9, Epoch: -1, Pub: 1},
	{Member: 9, Epoch: math.MinInt, Pub: 1},
}

func TestP83Add(t *testing.T) {
	for _, c := range []struct {
		from, to string
		leaf     int
	}{
		{"", "m30", 0},
		{"m5", "m5 . m30", 1},
		{". . m6", "m30 . m6", 0},
		{". P{1} m6", "m30 P{0 1} m6", 0},
		{"m5 P m6", "m5 P m6 . m30 . .", 2},
		{"m5 P{0,1} m6", "m5 P{0 1} m6 . m30 . .", 2},
		{"m5 P m6 P m7 . .", "m5 P m6 P{3} m7 . m30", 3},
		{"m5 . . P{2} m7 . m8", "m5 . m30 P{1 2} m7 . m8", 1},
		{"m5 P . P m7 P m8", "m5 P{1} m30 P{1} m7 P m8", 1},
		{"m5 P . . m7 P m8", "m5 P{1} m30 . m7 P m8", 1},
		{"m5 . . P{0,3} m7 P{3} m8", "m5 . m30 P{0 1 3} m7 P{3} m8", 1},
		{"m5 P m6 P{3} m7 P m8", "m5 P m6 P{3} m7 P m8 . m30 . . . . . .", 4},
		{"m5 P m6 P m7 P m8 P m9 P . P . P m1", "m5 P m6 P m7 P m8 P{5} m9 P{5} m30 P{5} . P m1", 5},
		{"m5 P m6 P m7 P m8 P{7} m9 P m2 P m3 P .", "m5 P m6 P m7 P m8 P{7} m9 P m2 P m3 P .", -1},
		{"m5 P m6 P m7 P m8 P{4,6} m9 P m2 P{6} m3 P{6} .", "m5 P m6 P m7 P m8 P{4 6 7} m9 P m2 P{6 7} m3 P{6 7} m30", 7},
	} {
		from := read(c.from)
		x, leaf, e := tree.Add(from, api.Add{Member: 30, Epoch: 40, Pub: 50})
		if c.leaf < 0 { // an Unmerged leaf that is blank: that may not be
			if e != api.ErrArg || leaf != 0 || x.Nodes != nil {
				t.Error(c.from, told(x), leaf, e)
			}
			continue
		}
		if e != api.OK || leaf != c.leaf || told(x) != c.to {
			t.Errorf("%s: %s, %d, %d", c.from, told(x), leaf, e)
			continue
		}
		want := api.Node{Pub: 50, Member: 30, Epoch: 40}
		for i, n := range x.Nodes {
			switch {
			case i == 2*leaf && !reflect.DeepEqual(n, want):
				t.Error(c.from, n)
			case i != 2*leaf && i < len(from.Nodes) && (n.Pub != from.Nodes[i].Pub || n.Epoch != from.Nodes[i].Epoch || n.Member != from.Nodes[i].Member):
				t.Error(c.from, i, n)
			}
		}
	}
}

// full has eight members, 0 to 7.
func full() api.Tree {
	var x api.Tree
	for i := range 8 {
		x, _, _ = tree.Add(x, api.Add{Member: i, Pub: 1})
	}
	return x
}

func TestP83Wrong(t *testing.T) {
	refused := func(what string, x api.Tree, a api.Add, want api.Errno) {
		t.Helper()
		if got, leaf, e := tree.Add(x, a); e != want || leaf != 0 || got.Nodes != nil {
			t.Error(what, a, told(got), leaf, e)
		}
	}
	for what, x := range none() {
		refused(what, x, api.Add{Member: 40, Pub: 1}, api.ErrArg)
		refused(what, x, api.Add{Member: 1, Pub: 1}, api.ErrArg)
	}
	for _, a := range wrongAdds {
		refused("m9", read("m9"), a, api.ErrArg)
		refused("m0", read("m0"), a, api.ErrArg)
		refused("full", full(), a, api.ErrArg)
	}
	for member := range 8 {
		refused("full", full(), api.Add{Member: member, Epoch: 3, Pub: 9}, api.ErrTwice)
	}
	refused("full", full(), api.Add{Member: 8, Pub: 1}, api.ErrLimit)
	refused("full", full(), api.Add{Member: math.MaxInt, Pub: 1}, api.ErrLimit)
	refused("right", read(". . m0"), api.Add{Pub: 1}, api.ErrTwice)
	x, leaf, e := tree.Add(read(". . m7"), api.Add{Pub: 1}) // blank leaves have no member, not even 0
	if e != api.OK || leaf != 0 || told(x) != "m0 . m7" {
		t.Error(told(x), leaf, e)
	}
	if got := tree.Members(full()); !slices.Equal(got, []int{0, 1, 2, 3, 4, 5, 6, 7}) || tree.Size(full()) != api.MaxLeaves {
		t.Error(got)
	}
}

func TestP84Remove(t *testing.T) {
	for _, c := range []struct {
		from   string
		member int
		to     string
	}{
		{"m5 . m6", 6, "m5"},
		{"m5 P m6", 6, "m5"},
		{"m5 . m6", 5, ". . m6"},
		{"m5 P{1} m6", 5, ". . m6"},
		{"m0 . m6", 0, ". . m6"},
		{"m5 P m6 P{3} m7 . m8", 6, "m5 . . . m7 . m8"},
		{"m5 P m6 P{3} m7 P{3} m8", 7, "m5 P m6 . . . m8"},
		{"m5 P m6 P{3} m7 P{3} m8", 8, "m5 P m6 . m7 . ."},
		{"m5 P{0,1} m6 P{2} m7 P .", 7, "m5 P{0 1} m6"},
		{"m5 P . P{2} m7 P .", 7, "m5"},
		{". P m5 P{2} m7 P .", 7, ". P m5"},
		{". . . . m7 P m8", 7, ". . . . . . m8"},
		{". . . . m7 P m8", 8, ". . . . m7 . ."},
		{"m1 P m2 P m3 P m4 P m5 P m6 P m7 P m8", 3, "m1 P m2 . . . m4 . m5 P m6 P m7 P m8"},
		{"m1 P m2 P m3 P m4 P m5 P m6 P m7 P m8", 8, "m1 P m2 P m3 P m4 . m5 P m6 . m7 . ."},
		{"m1 P m2 P{3} m3 P{3} m4 P{4} m5 P . P{4} . P .", 5, "m1 P m2 P{3} m3 P{3} m4"},
		{"m1 P{1} m2 P . P . P{4} m5 P . P{4} . P .", 5, "m1 P{1} m2"},
		{"m1 P . P . P . P{4} m5 P . P{4} . P .", 5, "m1"},
		{". P m1 P . P . P{4} m5 P . P{4} . P .", 5, ". P m1"},
		{". P . P m0 P . P{4} m5 P . P{4} . P .", 5, ". P . P m0 P ."},
		{"m0 . . . . . . . m4 . . . . P .", 4, "m0"},
		{"m0 . . . . . . . m4 . . . . P .", 0, ". . . . . . . . m4 . . . . P ."},
	} {
		from := read(c.from)
		x, e := tree.Remove(from, c.member)
		if e != api.OK || told(x) != c.to {
			t.Errorf("Remove(%s, %d) = %s, %d", c.from, c.member, told(x), e)
			continue
		}
		for i, n := range x.Nodes {
			if n.Pub != 0 && !reflect.DeepEqual(n, from.Nodes[i]) || n.Pub == 0 && (n.Member != 0 || n.Epoch != 0 || len(n.Unmerged) != 0) {
				t.Error(c.from, i, n)
			}
		}
	}
}

func TestP84Wrong(t *testing.T) {
	refused := func(what string, x api.Tree, member int, want api.Errno) {
		t.Helper()
		if got, e := tree.Remove(x, member); e != want || got.Nodes != nil {
			t.Error(what, member, told(got), e)
		}
	}
	for what, x := range none() {
		for _, member := range []int{1, 2, 77, -1} {
			refused(what, x, member, api.ErrArg)
		}
	}
	for _, s := range some {
		for _, member := range append(wild, 77) {
			refused(s, read(s), member, api.ErrGone)
		}
	}
	refused("none", api.Tree{}, 0, api.ErrGone)
	refused("m5", read("m5"), 0, api.ErrGone)
	refused("m5", read("m5"), 5, api.ErrRule)
	refused("m0", read("m0"), 0, api.ErrRule)
	refused("right", read(". . m6"), 0, api.ErrGone)
	refused("right", read(". . m6"), 6, api.ErrRule)
	refused("far right", read(". . . P . P m0"), 0, api.ErrRule)
	refused("far right", read(". P . P . P . P m8 P . P{4} . P ."), 8, api.ErrRule)
}

func TestP85Resolution(t *testing.T) {
	for s, want := range map[string][][]int{
		"m5":                              {{0}},
		". . m6":                          {{}, {2}, {2}},
		". P{1} m6":                       {{}, {1, 2}, {2}},
		"m5 P{0,1} m6":                    {{0}, {1, 0, 2}, {2}},
		"m5 P m6 P{3} m7 . m8":            {{0}, {1}, {2}, {3, 6}, {4}, {4, 6}, {6}},
		"m5 P{1} m6 . m7 P{2} m8":         {{0}, {1, 2}, {2}, {1, 2, 5, 4}, {4}, {5, 4}, {6}},
		"m5 P{1} m6 P m7 . .":             {{0}, {1, 2}, {2}, {3}, {4}, {4}, {}},
		". . . P . P m0":                  {{}, {}, {}, {3}, {}, {5}, {6}},
		"m0 . . . . . . . m4 . . . . P .": {{0}, {0}, {}, {0}, {}, {}, {}, {0, 8, 13}, {8}, {8}, {}, {8, 13}, {}, {13}, {}},
		"m1 . m2 P{0,2} m3 P m4 . . . m6 . m7 P{7} m8": {{0}, {0, 2}, {2}, {3, 0, 4}, {4}, {5}, {6}, {3, 0, 4, 10, 13, 14}, {}, {10}, {10}, {10, 13, 14}, {12}, {13, 14}, {14}},
	} {
		for node := range want {
			if got, e := tree.Resolution(read(s), node); e != api.OK || !slices.Equal(got, want[node]) {
				t.Errorf("Resolution(%s, %d) = %v, %d", s, node, got, e)
			}
		}
	}
}

func TestP85PathTargets(t *testing.T) {
	for _, c := range []struct {
		from    string
		leaf    int
		fresh   []int
		path    string
		targets string
	}{
		{"m5", 0, nil, "[]", "[]"},
		{"m5", 0, []int{0}, "[]", "[]"},
		{"m5 . m6", 0, nil, "[1]", "[[2]]"},
		{"m5 . m6", 1, nil, "[1]", "[[0]]"},
		{"m5 . m6", 1, []int{0}, "[1]", "[[]]"},
		{"m5 . m6", 1, []int{1}, "[1]", "[[0]]"},
		{". P m6", 1, nil, "[]", "[]"},
		{"m5 P m6 P{3} m7 . m8", 0, nil, "[1 3]", "[[2] [4 6]]"},
		{"m5 P m6 P{3} m7 . m8", 0, []int{3}, "[1 3]", "[[2] [4]]"},
		{"m5 P m6 P{3} m7 . m8", 0, []int{3, 1, 3, 2}, "[1 3]", "[[] []]"},
		{"m5 P m6 P{3} m7 . m8", 3, nil, "[5 3]", "[[4] [1]]"},
		{"m5 P m6 P{3} m7 . m8", 3, []int{0, 1}, "[5 3]", "[[4] [1]]"},
		{"m5 P{0,1} m6 P{3} m7 . m8", 3, []int{0, 4, 5}, "[5 3]", "[[4] [1 2]]"},
		{"m5 . . . m7 . m8", 0, nil, "[3]", "[[4 6]]"},
		{"m5 . . . . P m8", 0, nil, "[3]", "[[5]]"},
		{"m5 . . . . P{3} m8", 0, []int{3}, "[3]", "[[5]]"},
		{". . m1 . . . . . . . . . m3 . .", 1, nil, "[7]", "[[12]]"},
		{". . m1 . . . . . . . . . m3 . .", 6, nil, "[7]", "[[2]]"},
		{". . m1 P . P . P . P . . m3 . .", 6, nil, "[11 7]", "[[9] [3]]"},
		{"m0 . . . . . . . m4 . . . . P .", 4, nil, "[11 7]", "[[13] [0]]"},
		{"m0 . . . . . . . m4 . . . . P .", 0, []int{4, 13, 6, 7}, "[7]", "[[13]]"},
		{"m1 P m2 P m3 P m4 P m5 P m6 P m7 P m8", 5, nil, "[9 11 7]", "[[8] [13] [3]]"},
	} {
		for _, fresh := range [][]int{c.fresh, slices.Concat(wild, c.fresh, wild)} {
			nodes, e := tree.Path(read(c.from), c.leaf)
			targets, f := tree.Targets(read(c.from), c.leaf, fresh)
			if e != api.OK || f != api.OK || fmt.Sprint(nodes) != c.path || fmt.Sprint(targets) != c.targets {
				t.Error(c.from, c.leaf, c.fresh, nodes, e, targets, f)
			}
		}
	}
}

func TestP85Wrong(t *testing.T) {
	asked := func(what string, x api.Tree, n int, node, leaf api.Errno) {
		t.Helper()
		if l, e := tree.Resolution(x, n); e != node || e != api.OK && l != nil {
			t.Error(what, n, l, e)
		}
		if l, e := tree.Path(x, n); e != leaf || e != api.OK && l != nil {
			t.Error(what, n, l, e)
		}
		if l, e := tree.Targets(x, n, []int{0, n}); e != leaf || e != api.OK && l != nil {
			t.Error(what, n, l, e)
		}
	}
	for what, x := range none() {
		for _, n := range append(wild, 0, 1, 99) {
			asked(what, x, n, api.ErrArg, api.ErrArg)
		}
	}
	for _, s := range some {
		x := read(s)
		for _, n := range wild {
			asked(s, x, n, api.ErrGone, api.ErrGone)
		}
		for n := range 20 {
			node, leaf := api.OK, api.OK
			if n >= len(x.Nodes) {
				node = api.ErrGone
			}
			if 2*n >= len(x.Nodes) || x.Nodes[2*n].Pub == 0 {
				leaf = api.ErrGone
			}
			asked(s, x, n, node, leaf)
		}
	}
}

func TestP86SetPath(t *testing.T) {
	for _, c := range []struct {
		from string
		leaf int
		pubs []int
		to   string
	}{
		{"m5", 0, nil, "m5"},
		{"m5", 0, []int{}, "m5"},
		{"m5 . m6", 0, []int{91}, "m5 P m6"},
		{"m5 P{0,1} m6", 1, []int{91}, "m5 P m6"},
		{". P{1} m6", 1, nil, ". . m6"},
		{"m5 . m6 . m7 . .", 0, []int{91, 92}, "m5 P m6 P m7 . ."},
		{"m5 P m6 P{0,2} m7 P .", 2, []int{92}, "m5 P m6 P m7 . ."},
		{"m5 P{1} m6 P{0,2} m7 P .", 2, []int{92}, "m5 P{1} m6 P m7 . ."},
		{"m1 P{0} m2 P{1,3} m3 P{2,3} m4 P{0,2,4,7} m5 P m6 P{4,7} m7 P{7} m8", 3, []int{91, 92, math.MaxInt}, "m1 P{0} m2 P m3 P m4 P m5 P m6 P{4 7} m7 P{7} m8"},
		{". . m1 P . P . P . P . . m3 . .", 6, []int{91, 92}, ". . m1 P . P . P . P . P m3 . ."},
		{"m0 P . P . . . P m4 . . . . P .", 0, []int{91}, "m0 . . . . . . P m4 . . . . P ."},
	} {
		from := read(c.from)
		x, e := tree.SetPath(from, c.leaf, 70, 80, c.pubs)
		if e != api.OK || told(x) != c.to {
			t.Errorf("SetPath(%s, %d) = %s, %d", c.from, c.leaf, told(x), e)
			continue
		}
		want := read(c.from)
		want.Nodes[2*c.leaf] = api.Node{Pub: 80, Member: want.Nodes[2*c.leaf].Member, Epoch: 70}
		for node := range want.Nodes {
			if touched(len(want.Nodes), node, 2*c.leaf) {
				want.Nodes[node] = api.Node{}
			}
		}
		nodes, _ := tree.Path(from, c.leaf)
		for i, node := range nodes {
			want.Nodes[node] = api.Node{Pub: c.pubs[i]}
		}
		if !same(x, want) {
			t.Error(c.from, c.leaf, x.Nodes, want.Nodes)
		}
	}
	if x, e := tree.SetPath(read("m5"), 0, 0, 1, nil); e != api.OK || x.Nodes[0].Pub != 1 || x.Nodes[0].Epoch != 0 || x.Nodes[0].Member != 5 {
		t.Error(x, e)
	}
}

// touched: is a node above a leaf's node, in a tree of so many nodes?
func touched(nodes, x, leaf int) bool {
	root, reach := nodes/2, (nodes+1)/4
	for ; reach > 0; reach /= 2 {
		if x == root {
			return true
		}
		if leaf < root {
			root -= reach
		} else {
			root += reach
		}
	}
	return false
}

func TestP86Wrong(t *testing.T) {
	refused := func(what string, x api.Tree, leaf, epoch, pub int, pubs []int, want api.Errno) {
		t.Helper()
		if got, e := tree.SetPath(x, leaf, epoch, pub, pubs); e != want || got.Nodes != nil {
			t.Error(what, leaf, epoch, pub, pubs, told(got), e)
		}
	}
	for what, x := range none() {
		for _, leaf := range []int{-1, 0, 1, 99} {
			for length := range 4 {
				refused(what, x, leaf, 0, 1, []int{1, 2, 3}[:length], api.ErrArg)
			}
		}
	}
	for _, s := range some {
		x := read(s)
		for leaf := -1; leaf < 10; leaf++ {
			for _, n := range []int{-1, -2, math.MinInt} {
				refused(s, x, leaf, n, 1, nil, api.ErrArg)
				refused(s, x, leaf, 0, n, nil, api.ErrArg)
			}
			refused(s, x, leaf, 0, 0, nil, api.ErrArg)
		}
		for _, leaf := range wild {
			refused(s, x, leaf, 0, 1, nil, api.ErrGone)
			refused(s, x, leaf, 0, 1, []int{0, 1}, api.ErrGone)
		}
		for leaf := range 10 {
			nodes, e := tree.Path(x, leaf)
			for length := range 6 {
				pubs := []int{1, math.MaxInt, 3, 4, 5, 6}[:length]
				if e == api.ErrGone {
					refused(s, x, leaf, 0, 1, pubs, api.ErrGone)
					continue
				}
				if length != len(nodes) {
					refused(s, x, leaf, 0, 1, pubs, api.ErrArg)
					continue
				}
				for i := range pubs {
					for _, pub := range []int{0, -1, math.MinInt} {
						wrong := slices.Clone(pubs)
						wrong[i] = pub
						refused(s, x, leaf, 0, 1, wrong, api.ErrArg)
					}
				}
			}
		}
	}
}

func TestExamples(t *testing.T) {
	a, _ := tree.New(api.Add{Member: 5, Pub: 1})
	b, one, _ := tree.Add(a, api.Add{Member: 6, Pub: 1})
	c, two, _ := tree.Add(b, api.Add{Member: 7, Pub: 1})
	if told(a) != "m5" || told(b) != "m5 . m6" || one != 1 || told(c) != "m5 . m6 . m7 . ." || two != 2 {
		t.Error(told(a), told(b), one, told(c), two)
	}
	nodes, e := tree.Path(c, 0)
	if e != api.OK || !slices.Equal(nodes, []int{1, 3}) {
		t.Error(nodes, e)
	}
	d, e := tree.SetPath(c, 0, 0, 1, []int{1, 1})
	if e != api.OK || told(d) != "m5 P m6 P m7 . ." {
		t.Error(told(d), e)
	}
	d, three, e := tree.Add(d, api.Add{Member: 8, Pub: 1})
	if e != api.OK || three != 3 || told(d) != "m5 P m6 P{3} m7 . m8" {
		t.Error(told(d), three, e)
	}
	for node, want := range map[int]string{3: "[3 6] 0", 5: "[4 6] 0", 7: "[] 7"} {
		l, e := tree.Resolution(d, node)
		if got := fmt.Sprint(l, int(e)); got != want {
			t.Error(node, got)
		}
	}
	for _, s := range []struct {
		fresh []int
		want  string
	}{{nil, "[[2] [4 6]]"}, {[]int{3}, "[[2] [4]]"}} {
		l, e := tree.Targets(d, 0, s.fresh)
		if e != api.OK || fmt.Sprint(l) != s.want {
			t.Error(l, e)
		}
	}
	for i, want := range []string{"m5 . . . m7 . m8", "m5 . . . . . m8", "m5"} {
		d, e = tree.Remove(d, 6+i)
		if e != api.OK || told(d) != want {
			t.Error(told(d), e)
		}
	}
	_, _, twice := tree.Add(d, api.Add{Member: 5, Pub: 1})
	_, rule := tree.Remove(d, 5)
	_, gone := tree.Remove(d, 6)
	if twice != api.ErrTwice || rule != api.ErrRule || gone != api.ErrGone {
		t.Error(twice, rule, gone)
	}
}
