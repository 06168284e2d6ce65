package path_test

import (
	"fmt"
	"math"
	"slices"
	"strconv"
	"strings"
	"testing"

	"phratry/api"
	"phratry/path"
	"phratry/term"
	"phratry/tree"
)

// wild are numbers at the edges of int. Doubled, some of them come out as the node of a leaf.
var wild = []int{math.MinInt, math.MinInt + 1, -1 << 62, -1 << 32, -8, -2, -1, 1 << 20, 1<<20 + 1, 1 << 32, 1 << 62, 1<<62 + 1, math.MaxInt - 1, math.MaxInt}

func random(n int64) api.Term          { return api.Term{Kind: api.TmRand, N: n} }
func kdf(label int64, a int) api.Term  { return api.Term{Kind: api.TmKdf, N: label, A: a} }
func public(a int) api.Term            { return api.Term{Kind: api.TmPub, A: a} }
func sealed(with, inside int) api.Term { return api.Term{Kind: api.TmSeal, A: with, B: inside} }

// put makes a term that must go.
func put(t *testing.T, s *term.Store, x api.Term) int {
	t.Helper()
	n, e := s.Make(x)
	if e != api.OK {
		t.Fatal(x, e)
	}
	return n
}

// spell writes a term out by its parts: p and n are keys of the labels 1 and 2.
func spell(s *term.Store, n int) string {
	x, ok := s.Get(n)
	if !ok {
		return "?"
	}
	switch {
	case x.Kind == api.TmRand:
		return strconv.FormatInt(x.N, 10)
	case x == kdf(1, x.A):
		return "p" + spell(s, x.A)
	case x == kdf(2, x.A):
		return "n" + spell(s, x.A)
	case x.Kind == api.TmPub:
		return "pub " + spell(s, x.A)
	case x.Kind == api.TmSeal:
		return spell(s, x.B) + " by " + spell(s, x.A)
	}
	return fmt.Sprint(x)
}

// old is the secret that a node of a tree that was read has: rand 100 + its place.
func old(s *term.Store, place int) int {
	n, _ := s.Make(random(int64(100 + place)))
	return n
}

// read is a tree that chapter 8's writing tells: the Pub of each node is that of old, the Epoch of a leaf its place.
func read(s *term.Store, text string) api.Tree {
	var t api.Tree
	for i, word := range strings.Fields(text) {
		n := api.Node{}
		if word != "." {
			n.Pub, _ = s.Make(public(old(s, i)))
		}
		switch word[0] {
		case 'm':
			n.Member, _ = strconv.Atoi(word[1:])
			n.Epoch = i
		case 'P':
			for _, leaf := range strings.Split(strings.Trim(word, "P{}"), ",") {
				if number, e := strconv.Atoi(leaf); e == nil {
					n.Unmerged = append(n.Unmerged, number)
				}
			}
		}
		t.Nodes = append(t.Nodes, n)
	}
	return t
}

// told is a tree node by node: a dot, or the Pub, of a leaf with Member and Epoch, and the Unmerged.
func told(s *term.Store, t api.Tree) string {
	var l []string
	for i, n := range t.Nodes {
		text := "."
		if n.Pub != 0 {
			text = strings.TrimPrefix(spell(s, n.Pub), "pub ")
		}
		if i%2 == 0 && n.Pub != 0 {
			text += fmt.Sprint("m", n.Member, "e", n.Epoch)
		}
		if len(n.Unmerged) > 0 {
			text += fmt.Sprint(n.Unmerged)
		}
		l = append(l, text)
	}
	return strings.Join(l, " ")
}

func toldKeys(s *term.Store, keys []api.Key) string {
	var l []string
	for _, k := range keys {
		l = append(l, fmt.Sprint(k.Node, ":", spell(s, k.Secret)))
	}
	return strings.Join(l, ", ")
}

func toldSeals(s *term.Store, seals []api.Seal) string {
	var l []string
	for _, x := range seals {
		l = append(l, fmt.Sprint(x.At, ">", x.To, ": ", spell(s, x.Term)))
	}
	return strings.Join(l, ", ")
}

// lost are stores that are not there.
func lost() []*term.Store { return []*term.Store{nil, {}} }

// noTrees are trees that no store holds, made with the terms of one that has at least nine.
func noTrees() map[string]api.Tree {
	nodes := func(l ...api.Node) api.Tree { return api.Tree{Nodes: l} }
	leaf := func(pub, member int) api.Node { return api.Node{Pub: pub, Member: member} }
	return map[string]api.Tree{
		"two nodes":         nodes(leaf(1, 1), leaf(2, 2)),
		"blank":             nodes(api.Node{}),
		"right half blank":  nodes(leaf(1, 1), api.Node{}, api.Node{}),
		"one member twice":  nodes(leaf(1, 1), api.Node{}, leaf(2, 1)),
		"leaf below 0":      nodes(leaf(-1, 1)),
		"parent's member":   nodes(leaf(1, 1), leaf(1, 3), leaf(2, 2)),
		"wide":              {Nodes: slices.Repeat([]api.Node{{Pub: 1}}, 31)},
		"no term":           nodes(leaf(1<<20, 1)),
		"no term, far":      nodes(leaf(math.MaxInt, 1)),
		"one leaf no term":  nodes(leaf(1, 1), leaf(2, 0), leaf(1<<20, 2)),
		"a parent no term":  nodes(leaf(1, 1), leaf(1<<20, 0), leaf(3, 2)),
		"parent and a leaf": nodes(leaf(1<<20, 1), leaf(1<<20, 0), leaf(3, 2)),
	}
}

func TestP91Secrets(t *testing.T) {
	for many := 0; many <= 16; many++ {
		s := term.New()
		seed := put(t, s, random(7))
		l, e := path.Secrets(s, seed, many)
		if e != api.OK || len(l) != many+1 || s.Len() != many+1 {
			t.Fatal(many, l, e)
		}
		for i, n := range l {
			if got := spell(s, n); got != strings.Repeat("p", i)+"7" {
				t.Error(many, i, got)
			}
		}
		if again, e := path.Secrets(s, seed, many); e != api.OK || !slices.Equal(again, l) {
			t.Error(many, again, e)
		}
	}
}

func TestP91SeedOfAnyKind(t *testing.T) {
	s := term.New()
	put(t, s, random(7))
	put(t, s, api.Term{Kind: api.TmData, N: -3})
	put(t, s, api.Term{Kind: api.TmPair, A: 1, B: 2})
	put(t, s, public(1))
	put(t, s, sealed(1, 2))
	put(t, s, api.Term{Kind: api.TmHash, A: 1})
	for seed := 1; seed <= 6; seed++ {
		l, e := path.Secrets(s, seed, 1)
		key, pub, f := path.Node(s, seed)
		if e != api.OK || len(l) != 2 || l[0] != seed || f != api.OK {
			t.Fatal(seed, l, e, f)
		}
		second, _ := s.Get(l[1])
		k, _ := s.Get(key)
		p, _ := s.Get(pub)
		if second != kdf(1, seed) || k != kdf(2, seed) || p != public(key) {
			t.Error(seed, second, k, p)
		}
	}
}

func TestP91Node(t *testing.T) {
	s := term.New()
	put(t, s, random(7))
	secret := put(t, s, random(8))
	key, pub, e := path.Node(s, secret)
	if e != api.OK || spell(s, key) != "n8" || spell(s, pub) != "pub n8" {
		t.Error(spell(s, key), spell(s, pub), e)
	}
	if k, p, e := path.Node(s, secret); k != key || p != pub || e != api.OK || s.Len() != 4 {
		t.Error(k, p, e, s.Len())
	}
}

func TestP91Wrong(t *testing.T) {
	s := term.New()
	refused := func(s *term.Store, seed, many int, want api.Errno) {
		t.Helper()
		before := s.Len()
		if l, e := path.Secrets(s, seed, many); e != want || l != nil || s.Len() != before {
			t.Error("Secrets", seed, many, l, e)
		}
	}
	noNode := func(s *term.Store, secret int, want api.Errno) {
		t.Helper()
		before := s.Len()
		if key, pub, e := path.Node(s, secret); e != want || key != 0 || pub != 0 || s.Len() != before {
			t.Error("Node", secret, key, pub, e)
		}
	}
	refused(s, 1, 0, api.ErrArg)
	noNode(s, 1, api.ErrArg)
	put(t, s, random(7))
	put(t, s, random(8))
	for _, n := range append(wild, 0, 3) {
		refused(s, n, 0, api.ErrArg)
		refused(s, n, 16, api.ErrArg)
		refused(s, n, 17, api.ErrArg)
		noNode(s, n, api.ErrArg)
	}
	for _, many := range append(wild, 17, 18) {
		refused(s, 1, many, api.ErrArg)
	}
	for _, none := range lost() {
		for _, n := range append(wild, 0, 1) {
			refused(none, n, 0, api.ErrNil)
			refused(none, 1, n, api.ErrNil)
			noNode(none, n, api.ErrNil)
		}
	}
}

// made is a call of Make, with what comes of it: pubs are told without the word for public keys.
type made struct {
	from    string
	leaf    int
	without []int
	next    string
	keys    string
	seals   string
	secret  string
}

var makes = []made{
	{"m5", 0, nil, "n7m5e9", "0:n7", "", "p7"},
	{"m5", 0, []int{0, 1}, "n7m5e9", "0:n7", "", "p7"},
	{"m5 . m6", 0, nil, "n7m5e9 np7 102m6e2", "0:n7, 1:np7", "1>2: p7 by pub 102", "pp7"},
	{"m5 . m6", 1, nil, "100m5e0 np7 n7m6e9", "1:np7, 2:n7", "1>0: p7 by pub 100", "pp7"},
	{"m5 P m6", 0, []int{1}, "n7m5e9 np7 102m6e2", "0:n7, 1:np7", "", "pp7"},
	{". P{1} m6", 1, nil, ". . n7m6e9", "2:n7", "", "p7"},
	{"m5 P m6 P{3} m7 . m8", 0, nil, "n7m5e9 np7 102m6e2 npp7 104m7e4 . 106m8e6", "0:n7, 1:np7, 3:npp7",
		"1>2: p7 by pub 102, 3>4: pp7 by pub 104, 3>6: pp7 by pub 106", "ppp7"},
	{"m5 P m6 P{3} m7 . m8", 0, []int{3, -3, 1 << 62}, "n7m5e9 np7 102m6e2 npp7 104m7e4 . 106m8e6", "0:n7, 1:np7, 3:npp7",
		"1>2: p7 by pub 102, 3>4: pp7 by pub 104", "ppp7"},
	{"m5 P m6 P{3} m7 . m8", 3, []int{0, 1}, "100m5e0 101 102m6e2 npp7 104m7e4 np7 n7m8e9", "3:npp7, 5:np7, 6:n7",
		"5>4: p7 by pub 104, 3>1: pp7 by pub 101", "ppp7"},
	{"m5 P{1} m6 P m7 P .", 2, nil, "100m5e0 101[1] 102m6e2 np7 n7m7e9 . .", "3:np7, 4:n7",
		"3>1: p7 by pub 101, 3>2: p7 by pub 102", "pp7"},
	{"m5 . . . m7 . m8", 0, nil, "n7m5e9 . . np7 104m7e4 . 106m8e6", "0:n7, 3:np7", "3>4: p7 by pub 104, 3>6: p7 by pub 106", "pp7"},
	{"m1 P m2 P m3 P m4 P m5 P m6 P m7 P m8", 5, nil,
		"100m1e0 101 102m2e2 103 104m3e4 105 106m4e6 nppp7 108m5e8 np7 n7m6e9 npp7 112m7e12 113 114m8e14",
		"7:nppp7, 9:np7, 10:n7, 11:npp7", "9>8: p7 by pub 108, 11>13: pp7 by pub 113, 7>3: ppp7 by pub 103", "pppp7"},
	{"m1 . m2 P{0,2} m3 P m4 P{4} m5 . m6 . m7 P{7} m8", 4, []int{7, 5}, "100m1e0 . 102m2e2 103[0 2] 104m3e4 105 106m4e6 nppp7 n7m5e9 np7 110m6e10 npp7 112m7e12 113[7] 114m8e14",
		"7:nppp7, 8:n7, 9:np7, 11:npp7", "11>13: pp7 by pub 113, 7>3: ppp7 by pub 103, 7>0: ppp7 by pub 100, 7>4: ppp7 by pub 104", "pppp7"},
}

func TestP92Make(t *testing.T) {
	for _, c := range makes {
		s := term.New()
		from := read(s, c.from)
		before := told(s, from)
		next, keys, seals, secret, e := path.Make(s, from, c.leaf, 9, put(t, s, random(7)), c.without)
		if e != api.OK || told(s, next) != c.next || toldKeys(s, keys) != c.keys || toldSeals(s, seals) != c.seals || spell(s, secret) != c.secret {
			t.Error(c.from, c.leaf, c.without, e)
			t.Error(told(s, next))
			t.Error(toldKeys(s, keys), "|", toldSeals(s, seals), "|", spell(s, secret))
		}
		if tree.Check(next) != api.OK || told(s, from) != before {
			t.Error(c.from, "changed")
		}
	}
}

func TestP92EdgeArguments(t *testing.T) {
	s := term.New()
	from := read(s, "m5 . m6")
	seed := put(t, s, random(7))
	for _, epoch := range []int{0, 1, math.MaxInt} {
		next, _, _, _, e := path.Make(s, from, 1, epoch, seed, wild)
		if e != api.OK || next.Nodes[2].Epoch != epoch || next.Nodes[0].Epoch != 0 {
			t.Error(epoch, next, e)
		}
	}
	// A Pub may be any term, and that of a leaf or of another node, too.
	for _, pub := range []int{seed, from.Nodes[0].Pub} {
		from.Nodes[2].Pub = pub
		next, _, seals, _, e := path.Make(s, from, 0, 0, pub, nil)
		if e != api.OK || len(seals) != 1 || next.Nodes[2].Pub != pub {
			t.Fatal(seals, e)
		}
		inside, _ := s.Make(kdf(1, pub))
		if x, _ := s.Get(seals[0].Term); x != sealed(pub, inside) {
			t.Error(x)
		}
	}
	// What is there already gets no other number.
	a, keys, seals, secret, _ := path.Make(s, from, 0, 0, seed, nil)
	many := s.Len()
	b, keys2, seals2, secret2, e := path.Make(s, from, 0, 0, seed, nil)
	if e != api.OK || told(s, a) != told(s, b) || !slices.Equal(keys, keys2) || !slices.Equal(seals, seals2) || secret != secret2 || s.Len() != many {
		t.Error(b, keys2, seals2, secret2, e)
	}
}

func TestP92Wrong(t *testing.T) {
	refused := func(s *term.Store, from api.Tree, leaf, epoch, seed int, want api.Errno) {
		t.Helper()
		before := s.Len()
		next, keys, seals, secret, e := path.Make(s, from, leaf, epoch, seed, []int{0})
		if e != want || next.Nodes != nil || keys != nil || seals != nil || secret != 0 || s.Len() != before {
			t.Error(from, leaf, epoch, seed, next, keys, seals, secret, e)
		}
	}
	s := term.New()
	good := read(s, ". . m6 P m7 . .")
	for n := range 9 {
		put(t, s, random(int64(n)))
	}
	for _, leaf := range append(wild, 0, 3, 4, 6) {
		refused(s, good, leaf, 0, 1, api.ErrArg)
	}
	for _, epoch := range []int{-1, -2, math.MinInt} {
		refused(s, good, 1, epoch, 1, api.ErrArg)
	}
	for _, seed := range append(wild, 0, s.Len()+1) {
		refused(s, good, 1, 0, seed, api.ErrArg)
	}
	for _, leaf := range []int{-1, 0, 1} {
		refused(s, api.Tree{}, leaf, 0, 1, api.ErrArg)
	}
	for what, none := range noTrees() {
		t.Log(what)
		for leaf := range 3 {
			refused(s, none, leaf, 0, 1, api.ErrArg)
		}
	}
	for _, none := range lost() {
		refused(none, good, 1, 0, 1, api.ErrNil)
		refused(none, api.Tree{}, -1, -1, -1, api.ErrNil)
	}
	// A tree with terms of another store.
	refused(term.New(), good, 1, 0, 1, api.ErrArg)
}

func TestP94Joint(t *testing.T) {
	s := term.New()
	for _, c := range []struct {
		tree string
		want [][]int
	}{
		{"m5", [][]int{{-1}}},
		{"m5 . m6", [][]int{{-1, -1}, {-1, -1}}},
		{"m5 P m6", [][]int{{1, 1}, {1, 1}}},
		{". P m6", [][]int{{1, 1}, {1, 1}}},
		{"m5 . m6 P m7 . .", [][]int{{3, 3, 3, 3}, {3, 3, 3, 3}, {3, 3, 3, 3}, {3, 3, 3, 3}}},
		{"m5 P m6 . m7 . .", [][]int{{1, 1, -1, -1}, {1, 1, -1, -1}, {-1, -1, -1, -1}, {-1, -1, -1, -1}}},
		{"m5 P m6 P{3} m7 . m8", [][]int{{1, 1, 3, 3}, {1, 1, 3, 3}, {3, 3, 3, 3}, {3, 3, 3, 3}}},
		{"m1 . m2 P m3 P m4 . m5 P m6 . m7 P m8", [][]int{
			{3, 3, 3, 3, -1, -1, -1, -1}, {3, 3, 3, 3, -1, -1, -1, -1}, {3, 3, 5, 5, -1, -1, -1, -1}, {3, 3, 5, 5, -1, -1, -1, -1},
			{-1, -1, -1, -1, 9, 9, -1, -1}, {-1, -1, -1, -1, 9, 9, -1, -1}, {-1, -1, -1, -1, -1, -1, 13, 13}, {-1, -1, -1, -1, -1, -1, 13, 13}}},
	} {
		x := read(s, c.tree)
		for leaf, row := range c.want {
			for other, want := range row {
				if got := path.Joint(x, leaf, other); got != want {
					t.Errorf("Joint(%s, %d, %d) = %d, not %d", c.tree, leaf, other, got, want)
				}
			}
			for _, n := range append(wild, len(c.want), 2*len(c.want)) {
				if a, b := path.Joint(x, leaf, n), path.Joint(x, n, leaf); a != -1 || b != -1 {
					t.Error(c.tree, leaf, n, a, b)
				}
			}
		}
	}
	if got := path.Joint(api.Tree{}, 0, 0); got != -1 {
		t.Error(got)
	}
	for what, x := range noTrees() {
		if tree.Check(x) != api.OK && path.Joint(x, 0, 1) != -1 {
			t.Error(what)
		}
	}
	// No store is asked: any Pub will do.
	far := api.Tree{Nodes: []api.Node{{Pub: 1 << 40, Member: 1}, {Pub: math.MaxInt}, {Pub: 1 << 50, Member: 2}}}
	if got := path.Joint(far, 1, 0); got != 1 {
		t.Error(got)
	}
}

// grown is a tree of eight leaves of which the leaf 2 has made its path from rand 7: 4, 5, 3 and 7 are n7, np7, npp7 and nppp7.
func grown(t *testing.T, s *term.Store) api.Tree {
	t.Helper()
	next, _, _, _, e := path.Make(s, read(s, "m1 P m2 P m3 P m4 P m5 P m6 P m7 P m8"), 2, 0, put(t, s, random(7)), nil)
	if e != api.OK {
		t.Fatal(e)
	}
	return next
}

func TestP94Above(t *testing.T) {
	s := term.New()
	next := grown(t, s)
	row, _ := path.Secrets(s, put(t, s, random(7)), 4)
	for _, c := range []struct {
		node, secret int
		keys         string
	}{
		{4, row[0], "3:npp7, 4:n7, 5:np7, 7:nppp7"},
		{5, row[1], "3:npp7, 5:np7, 7:nppp7"},
		{3, row[2], "3:npp7, 7:nppp7"},
		{7, row[3], "7:nppp7"},
	} {
		l, commit, e := path.Above(s, next, c.node, c.secret)
		if e != api.OK || toldKeys(s, l) != c.keys || commit != row[4] {
			t.Error(c.node, toldKeys(s, l), spell(s, commit), e)
		}
		for i, secret := range row {
			l, commit, e := path.Above(s, next, c.node, secret)
			if secret != c.secret && (e != api.ErrKey || l != nil || commit != 0) {
				t.Error(c.node, i, l, commit, e)
			}
		}
	}
}

// TestP94AboveBlank: blank nodes above have no secret of the path; one to begin with has no Pub that could be right.
func TestP94AboveBlank(t *testing.T) {
	s := term.New()
	seed := put(t, s, random(7))
	next, _, _, secret, e := path.Make(s, read(s, "m1 . . . . . . . m5 P m6 . . . ."), 0, 0, seed, nil)
	if e != api.OK {
		t.Fatal(e)
	}
	l, commit, e := path.Above(s, next, 0, seed)
	if e != api.OK || toldKeys(s, l) != "0:n7, 7:np7" || commit != secret {
		t.Error(toldKeys(s, l), spell(s, commit), e)
	}
	for _, node := range []int{1, 2, 3} {
		for n := 1; n <= s.Len(); n++ {
			if l, commit, e := path.Above(s, next, node, n); e != api.ErrKey || l != nil || commit != 0 {
				t.Error(node, n, l, commit, e)
			}
		}
	}
	// A leaf alone: the seed, and the commit's secret behind it.
	one, _, _, secret, _ := path.Make(s, read(s, "m5"), 0, 0, seed, nil)
	if l, commit, e := path.Above(s, one, 0, seed); e != api.OK || toldKeys(s, l) != "0:n7" || commit != secret {
		t.Error(toldKeys(s, l), spell(s, commit), e)
	}
}

// TestP94AboveMakesTheCommit: the secret behind the last one is made, where it is not there.
func TestP94AboveMakesTheCommit(t *testing.T) {
	s := term.New()
	seed := put(t, s, random(7))
	_, pub, _ := path.Node(s, seed)
	alone := api.Tree{Nodes: []api.Node{{Pub: pub, Member: 4}}}
	if l, commit, e := path.Above(s, alone, 0, seed); e != api.OK || toldKeys(s, l) != "0:n7" || spell(s, commit) != "p7" {
		t.Error(toldKeys(s, l), spell(s, commit), e)
	}
}

// TestP94AboveWrongPub puts another key to each node of the row: one that is not right is ErrKey, and makes nothing.
func TestP94AboveWrongPub(t *testing.T) {
	s := term.New()
	next := grown(t, s)
	row, _ := path.Secrets(s, put(t, s, random(7)), 4)
	one, _ := s.Make(api.Term{Kind: api.TmData, N: 1})
	wrong := []api.Term{random(7), public(row[0]), public(row[1]), public(row[2]), public(row[3]), kdf(2, row[1]), kdf(2, row[2])}
	for _, secret := range row {
		inContext := put(t, s, api.Term{Kind: api.TmKdf, N: 2, A: secret, B: one})
		labelled := put(t, s, kdf(3, secret))
		key := put(t, s, kdf(2, secret))
		hashed := put(t, s, api.Term{Kind: api.TmHash, A: key})
		wrong = append(wrong, api.Term{Kind: api.TmHash, A: key}, api.Term{Kind: api.TmPair, A: key, B: key}, sealed(key, key), kdf(0, key))
		wrong = append(wrong, public(inContext), public(labelled), public(hashed), public(put(t, s, kdf(2, key))))
		aside := put(t, s, api.Term{Kind: api.TmKdf, N: 1, A: secret, B: one})
		wrong = append(wrong, public(put(t, s, kdf(2, aside))))
	}
	for place, node := range []int{4, 5, 3, 7} {
		for _, x := range wrong {
			pub := put(t, s, x)
			if pub == next.Nodes[node].Pub {
				continue
			}
			other := api.Tree{Nodes: slices.Clone(next.Nodes)}
			other.Nodes[node].Pub = pub
			many := s.Len()
			for below, from := range []int{4, 5, 3, 7} {
				l, commit, e := path.Above(s, other, from, row[below])
				if below > place && e == api.OK && commit == row[4] {
					continue
				}
				if e != api.ErrKey || l != nil || commit != 0 || below > place || s.Len() != many {
					t.Error(node, from, spell(s, pub), l, commit, e)
				}
			}
		}
	}
	// The row of another seed is right in itself, but not behind this one.
	mixed := api.Tree{Nodes: slices.Clone(next.Nodes)}
	strange, _ := path.Secrets(s, put(t, s, random(8)), 3)
	_, mixed.Nodes[3].Pub, _ = path.Node(s, strange[2])
	_, mixed.Nodes[7].Pub, _ = path.Node(s, strange[3])
	if l, commit, e := path.Above(s, mixed, 4, row[0]); e != api.ErrKey || l != nil || commit != 0 {
		t.Error(l, commit, e)
	}
	// So is one that leaves a secret out, and one that stays where it is.
	for _, other := range []int{row[1], row[3]} {
		_, mixed.Nodes[3].Pub, _ = path.Node(s, other)
		if l, commit, e := path.Above(s, mixed, 5, row[1]); e != api.ErrKey || l != nil || commit != 0 {
			t.Error(l, commit, e)
		}
	}
}

func TestP94Wrong(t *testing.T) {
	refused := func(s *term.Store, next api.Tree, node, secret int, want api.Errno) {
		t.Helper()
		before := s.Len()
		if l, commit, e := path.Above(s, next, node, secret); e != want || l != nil || commit != 0 || s.Len() != before {
			t.Error(node, secret, l, commit, e)
		}
	}
	s := term.New()
	next := grown(t, s)
	for _, n := range wild {
		refused(s, next, n, 1, api.ErrArg)
		refused(s, next, 4, n, api.ErrArg)
	}
	refused(s, next, 15, 1, api.ErrArg)
	refused(s, next, 4, 0, api.ErrArg)
	refused(s, next, 1, s.Len()+1, api.ErrArg)
	refused(s, api.Tree{}, 0, 1, api.ErrArg)
	for _, x := range noTrees() {
		refused(s, x, 0, 1, api.ErrArg)
	}
	for _, none := range lost() {
		refused(none, next, 4, 1, api.ErrNil)
		refused(none, api.Tree{}, -1, -1, api.ErrNil)
	}
	refused(term.New(), next, 4, 1, api.ErrArg)
}

func TestExamples(t *testing.T) {
	s := term.New()
	x := put(t, s, random(7))
	both := read(s, "m5 . m6")
	l, e := path.Secrets(s, x, 2)
	if e != api.OK || len(l) != 3 || spell(s, l[0]) != "7" || spell(s, l[1]) != "p7" || spell(s, l[2]) != "pp7" {
		t.Error(l, e)
	}
	next, keys, seals, secret, e := path.Make(s, both, 0, 5, x, nil)
	if e != api.OK || next.Nodes[0].Epoch != 5 || toldKeys(s, keys) != "0:n7, 1:np7" || toldSeals(s, seals) != "1>2: p7 by pub 102" || secret != l[2] {
		t.Error(next, keys, seals, secret, e)
	}
	got, same, e := path.Open(s, next, 0, 1, []api.Key{{Node: 2, Secret: old(s, 2)}}, seals)
	if e != api.OK || toldKeys(s, got) != "1:np7, 2:102" || same != secret {
		t.Error(got, same, e)
	}
	if _, _, seals, _, e := path.Make(s, both, 0, 5, x, []int{1}); e != api.OK || len(seals) != 0 {
		t.Error(seals, e)
	}
}
