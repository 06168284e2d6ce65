package index_test

import (
	"math"
	"slices"
	"testing"

	"phratry/index"
)

// knot is a node of a tree that is built from its root down, by halves, to hold the package's arithmetic against.
type knot struct {
	place, level int
	parent       int
	left, right  int
	first, last  int
}

const none = -1

// build lays the tree over the leaves from first on, so many of them, and answers its root's place.
func build(nodes []knot, first, leaves, parent int) int {
	place := 2*first + leaves - 1
	k := knot{place: place, parent: parent, left: none, right: none, first: first, last: first + leaves - 1}
	if leaves > 1 {
		k.left = build(nodes, first, leaves/2, place)
		k.right = build(nodes, first+leaves/2, leaves/2, place)
		k.level = nodes[k.left].level + 1
	}
	nodes[place] = k
	return place
}

func plain(leaves int) []knot {
	nodes := make([]knot, 2*leaves-1)
	build(nodes, 0, leaves, none)
	return nodes
}

// up answers the place itself and all above it.
func up(nodes []knot, x int) []int {
	var l []int
	for ; x != none; x = nodes[x].parent {
		l = append(l, x)
	}
	return l
}

func other(nodes []knot, x int) int {
	p := nodes[nodes[x].parent]
	return p.left + p.right - x
}

// someTrees are the sizes of which every node is looked at.
var someTrees = []int{1, 2, 4, 8, 16, 32, 64}

// noTrees are numbers of leaves that no tree has.
var noTrees = []int{0, -1, -2, -4, 3, 5, 6, 7, 12, 1<<30 - 1, 1<<30 + 1, 1<<30 + 1<<29, 1 << 31, 1 << 32, 1 << 62, math.MaxInt, math.MinInt, math.MinInt + 1}

// wild are numbers at the edges of int.
var wild = []int{math.MinInt, math.MinInt + 1, -1 << 32, -4, -3, -2, -1, 1 << 32, 1<<62 - 1, 1 << 62, math.MaxInt - 2, math.MaxInt - 1, math.MaxInt}

// want tells of a number and a flag that are not the ones that they should be.
func want(t *testing.T, what string, x, leaves, got int, ok bool, wantGot int, wantOk bool) {
	t.Helper()
	if got != wantGot || ok != wantOk {
		t.Errorf("%s(%d, %d) = %d, %v, not %d, %v", what, x, leaves, got, ok, wantGot, wantOk)
	}
}

func TestP21WidthRoot(t *testing.T) {
	for leaves, power := 1, 0; power <= 30; leaves, power = 2*leaves, power+1 {
		if got := index.Width(leaves); got != leaves+leaves-1 {
			t.Errorf("Width(%d) = %d", leaves, got)
		}
		if got := index.Root(leaves); got != leaves-1 {
			t.Errorf("Root(%d) = %d", leaves, got)
		}
	}
	for _, leaves := range noTrees {
		if got := index.Width(leaves); got != 0 {
			t.Errorf("Width(%d) = %d", leaves, got)
		}
		if got := index.Root(leaves); got != -1 {
			t.Errorf("Root(%d) = %d", leaves, got)
		}
	}
}

func TestP21EverySmallNumber(t *testing.T) {
	trees := []int{1, 2, 4, 8, 16, 32, 64, 128, 256, 512}
	for leaves := -520; leaves <= 520; leaves++ {
		width, root := 0, -1
		if slices.Contains(trees, leaves) {
			width, root = 2*leaves-1, leaves-1
		}
		if index.Width(leaves) != width || index.Root(leaves) != root {
			t.Errorf("of %d: %d, %d", leaves, index.Width(leaves), index.Root(leaves))
		}
	}
}

func TestP22Level(t *testing.T) {
	for _, k := range plain(512) {
		if got := index.Level(k.place); got != k.level {
			t.Errorf("Level(%d) = %d, not %d", k.place, got, k.level)
		}
	}
	for x, level := range map[int]int{
		math.MaxInt: 63, math.MaxInt - 1: 0, math.MaxInt - 2: 1, 1 << 62: 0, 1<<62 - 1: 62, 1<<62 + 1: 1,
		-1: -1, -2: -1, -3: -1, math.MinInt: -1, math.MinInt + 1: -1,
	} {
		if got := index.Level(x); got != level {
			t.Errorf("Level(%d) = %d, not %d", x, got, level)
		}
	}
}

func TestP22LeftRight(t *testing.T) {
	for _, k := range plain(512) {
		l, isLeft := index.Left(k.place)
		r, isRight := index.Right(k.place)
		if k.level == 0 {
			k.left, k.right = 0, 0
		}
		want(t, "Left", k.place, 512, l, isLeft, k.left, k.level > 0)
		want(t, "Right", k.place, 512, r, isRight, k.right, k.level > 0)
	}
	for _, r := range []struct {
		x           int
		left, right int
		lOk, rOk    bool
	}{
		{math.MaxInt, 1<<62 - 1, 0, true, false},
		{math.MaxInt - 1, 0, 0, false, false},
		{math.MaxInt - 2, math.MaxInt - 3, math.MaxInt - 1, true, true},
		{1<<62 - 1, 1<<61 - 1, 1<<62 + 1<<61 - 1, true, true},
		{math.MaxInt - 1<<61, math.MaxInt - 1<<61 - 1<<60, math.MaxInt - 1<<60, true, true},
		{-1, 0, 0, false, false},
		{-3, 0, 0, false, false},
		{math.MinInt, 0, 0, false, false},
		{math.MinInt + 1, 0, 0, false, false},
	} {
		l, lOk := index.Left(r.x)
		want(t, "Left", r.x, 0, l, lOk, r.left, r.lOk)
		g, gOk := index.Right(r.x)
		want(t, "Right", r.x, 0, g, gOk, r.right, r.rOk)
	}
}

func TestP22Span(t *testing.T) {
	for _, k := range plain(512) {
		if a, b := index.Span(k.place); a != k.first || b != k.last {
			t.Errorf("Span(%d) = %d, %d, not %d, %d", k.place, a, b, k.first, k.last)
		}
	}
	for x, span := range map[int][2]int{
		math.MaxInt:     {-1, -1},
		math.MaxInt - 1: {1<<62 - 1, 1<<62 - 1},
		math.MaxInt - 2: {1<<62 - 2, 1<<62 - 1},
		1<<62 - 1:       {0, 1<<62 - 1},
		1<<61 - 1:       {0, 1<<61 - 1},
		1 << 62:         {1 << 61, 1 << 61},
		-1:              {-1, -1},
		-2:              {-1, -1},
		math.MinInt:     {-1, -1},
	} {
		if a, b := index.Span(x); a != span[0] || b != span[1] {
			t.Errorf("Span(%d) = %d, %d, not %v", x, a, b, span)
		}
	}
}

func TestP23ParentSibling(t *testing.T) {
	for _, leaves := range someTrees {
		nodes := plain(leaves)
		for x := range nodes {
			parent, sibling, ok := 0, 0, nodes[x].parent != none
			if ok {
				parent, sibling = nodes[x].parent, other(nodes, x)
			}
			p, a := index.Parent(x, leaves)
			want(t, "Parent", x, leaves, p, a, parent, ok)
			s, b := index.Sibling(x, leaves)
			want(t, "Sibling", x, leaves, s, b, sibling, ok)
		}
	}
}

func TestP23OfTheGreatestTree(t *testing.T) {
	const leaves = 1 << 30
	for _, r := range []struct {
		x, parent, sibling int
		ok                 bool
	}{
		{0, 1, 2, true},
		{2*leaves - 2, 2*leaves - 3, 2*leaves - 4, true},
		{2*leaves - 1, 0, 0, false},
		{leaves - 1, 0, 0, false},
		{leaves/2 - 1, leaves - 1, leaves + leaves/2 - 1, true},
		{leaves + leaves/2 - 1, leaves - 1, leaves/2 - 1, true},
	} {
		p, a := index.Parent(r.x, leaves)
		want(t, "Parent", r.x, leaves, p, a, r.parent, r.ok)
		s, b := index.Sibling(r.x, leaves)
		want(t, "Sibling", r.x, leaves, s, b, r.sibling, r.ok)
	}
}

// outside goes through nodes and numbers of leaves of which the node is not in a tree.
func outside(f func(x, leaves int)) {
	for _, leaves := range noTrees {
		for _, x := range append([]int{0, 1, 2, 3, 4, 5}, wild...) {
			f(x, leaves)
		}
	}
	for _, leaves := range append([]int{1 << 29, 1 << 30}, someTrees...) {
		for _, x := range append([]int{2*leaves - 1, 2 * leaves, 2*leaves + 1, 4*leaves - 1}, wild...) {
			f(x, leaves)
		}
	}
}

func TestP23NotInATree(t *testing.T) {
	outside(func(x, leaves int) {
		p, a := index.Parent(x, leaves)
		want(t, "Parent", x, leaves, p, a, 0, false)
		s, b := index.Sibling(x, leaves)
		want(t, "Sibling", x, leaves, s, b, 0, false)
	})
}

func TestP24DirectCopath(t *testing.T) {
	for _, leaves := range someTrees {
		nodes := plain(leaves)
		for x := range nodes {
			var co []int
			all := up(nodes, x)
			for _, y := range all[:len(all)-1] {
				co = append(co, other(nodes, y))
			}
			if got := index.Direct(x, leaves); !slices.Equal(got, all[1:]) {
				t.Errorf("Direct(%d, %d) = %v, not %v", x, leaves, got, all[1:])
			}
			if got := index.Copath(x, leaves); !slices.Equal(got, co) {
				t.Errorf("Copath(%d, %d) = %v, not %v", x, leaves, got, co)
			}
		}
	}
}

func TestP24NotInATree(t *testing.T) {
	outside(func(x, leaves int) {
		if got := index.Direct(x, leaves); len(got) != 0 {
			t.Errorf("Direct(%d, %d) = %v", x, leaves, got)
		}
		if got := index.Copath(x, leaves); len(got) != 0 {
			t.Errorf("Copath(%d, %d) = %v", x, leaves, got)
		}
	})
}

func TestP24AnswersShareNothing(t *testing.T) {
	for _, f := range []func(x, leaves int) []int{index.Direct, index.Copath} {
		a, b := f(4, 32), f(4, 32)
		clear(a[:cap(a)])
		if !slices.Equal(b, f(4, 32)) || slices.Contains(b, 0) {
			t.Error(b)
		}
	}
}

func TestP25Common(t *testing.T) {
	for _, leaves := range []int{1, 2, 4, 8, 16, 32} {
		nodes := plain(leaves)
		for a := range nodes {
			above := up(nodes, a)
			for b := range nodes {
				nearest := none
				for _, y := range up(nodes, b) {
					if nearest == none && slices.Contains(above, y) {
						nearest = y
					}
				}
				if got := index.Common(a, b, leaves); got != nearest {
					t.Errorf("Common(%d, %d, %d) = %d, not %d", a, b, leaves, got, nearest)
				}
			}
		}
	}
	if got := index.Common(0, 1<<31-2, 1<<30); got != 1<<30-1 {
		t.Errorf("across the greatest tree: %d", got)
	}
}

func TestP25CommonNotInATree(t *testing.T) {
	outside(func(x, leaves int) {
		for _, y := range []int{0, x} {
			if got := index.Common(x, y, leaves); got != -1 {
				t.Errorf("Common(%d, %d, %d) = %d", x, y, leaves, got)
			}
			if got := index.Common(y, x, leaves); got != -1 {
				t.Errorf("Common(%d, %d, %d) = %d", y, x, leaves, got)
			}
		}
	})
}

func TestP25Within(t *testing.T) {
	nodes := plain(64)
	for x := range nodes {
		above := up(nodes, x)
		for y := range nodes {
			if got := index.Within(x, y); got != slices.Contains(above, y) {
				t.Errorf("Within(%d, %d) = %v", x, y, got)
			}
		}
	}
}

func TestP25WithinAtTheEdges(t *testing.T) {
	const top = math.MaxInt
	for _, r := range []struct {
		x, y int
		want bool
	}{
		{0, top, true}, {top - 1, top, true}, {1<<62 - 1, top, true}, {1 << 62, top, true}, {top, top, true},
		{top, 0, false}, {top, top - 1, false}, {top, 1<<62 - 1, false},
		{top - 1, top - 2, true}, {top - 2, top - 1, false}, {1 << 62, 1<<62 - 1, true}, {top - 1, 1<<62 - 1, true},
		{0, 1<<61 - 1, true}, {1 << 62, 1<<61 - 1, false}, {1<<62 - 1, 1<<61 - 1, false},
		{-1, 3, false}, {3, -1, false}, {-1, -1, false}, {-2, -1, false}, {-4, -3, false}, {math.MinInt, top, false},
		{math.MinInt, math.MinInt, false}, {top, -1, false}, {0, -1, false}, {-1, 0, false},
	} {
		if got := index.Within(r.x, r.y); got != r.want {
			t.Errorf("Within(%d, %d) = %v", r.x, r.y, got)
		}
	}
}

func TestP26Children(t *testing.T) {
	for x := 1; x < 4096; x += 2 {
		l, isLeft := index.Left(x)
		r, isRight := index.Right(x)
		if !isLeft || !isRight || l >= x || r <= x || index.Level(l) != index.Level(x)-1 || index.Level(r) != index.Level(x)-1 {
			t.Errorf("children of %d: %d, %d", x, l, r)
		}
		for leaves := 1; leaves <= 1<<30; leaves *= 2 {
			if x >= 2*leaves-1 {
				continue
			}
			p, a := index.Parent(l, leaves)
			q, b := index.Parent(r, leaves)
			if !a || !b || p != x || q != x {
				t.Errorf("parents of %d, %d in %d: %d, %d", l, r, leaves, p, q)
			}
		}
	}
}

func TestP26Lengths(t *testing.T) {
	for leaves := 1; leaves <= 1<<30; leaves *= 2 {
		step := max(1, leaves/509)
		for x := 0; x < 2*leaves-1; x += step {
			n := index.Level(index.Root(leaves)) - index.Level(x)
			if d, c := index.Direct(x, leaves), index.Copath(x, leaves); len(d) != n || len(c) != n {
				t.Errorf("of %d in %d: %v, %v", x, leaves, d, c)
			}
		}
	}
}

func TestP26LeavesBelow(t *testing.T) {
	const leaves = 32
	for x := range 2*leaves - 1 {
		first, last := index.Span(x)
		for a := first; a <= last; a++ {
			for b := first; b <= last; b++ {
				if c := index.Common(2*a, 2*b, leaves); !index.Within(c, x) {
					t.Errorf("leaves %d, %d below %d: %d", a, b, x, c)
				}
			}
		}
	}
}

func TestExamples(t *testing.T) {
	if a, b, c, d := index.Width(4), index.Root(4), index.Width(3), index.Root(0); a != 7 || b != 3 || c != 0 || d != -1 {
		t.Error(a, b, c, d)
	}
	for x, level := range map[int]int{0: 0, 1: 1, 3: 2, 5: 1, 7: 3, -1: -1} {
		if got := index.Level(x); got != level {
			t.Error(x, got)
		}
	}
	for x, span := range map[int][2]int{5: {2, 3}, 3: {0, 3}} {
		if a, b := index.Span(x); a != span[0] || b != span[1] {
			t.Error(x, a, b)
		}
	}
	for _, r := range [][3]int{{0, 2, 1}, {0, 6, 3}, {4, 4, 4}, {1, 2, 1}} {
		if got := index.Common(r[0], r[1], 4); got != r[2] {
			t.Error(r, got)
		}
	}
	if !index.Within(4, 5) || index.Within(2, 5) {
		t.Error("within")
	}
	if d, c := index.Direct(4, 4), index.Copath(4, 4); !slices.Equal(d, []int{5, 3}) || !slices.Equal(c, []int{6, 1}) {
		t.Error(d, c)
	}
	for x, children := range map[int][2]int{3: {1, 5}, 5: {4, 6}} {
		l, _ := index.Left(x)
		r, _ := index.Right(x)
		if l != children[0] || r != children[1] {
			t.Error(x, l, r)
		}
	}
	for _, r := range [][3]int{{4, 4, 5}, {5, 4, 3}, {3, 8, 7}} {
		p, ok := index.Parent(r[0], r[1])
		want(t, "Parent", r[0], r[1], p, ok, r[2], true)
	}
}
