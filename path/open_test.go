package path_test

import (
	"math"
	"slices"
	"testing"

	"phratry/api"
	"phratry/path"
	"phratry/term"
)

// desk has what a test of Open asks with: the leaf 2 of eight has made its path from rand 7.
type desk struct {
	t      *testing.T
	s      *term.Store
	next   api.Tree
	seals  []api.Seal
	secret int
	row    []int
}

func newDesk(t *testing.T, text string) *desk {
	t.Helper()
	d := &desk{t: t, s: term.New()}
	from := read(d.s, text)
	seed := put(t, d.s, random(7))
	var e api.Errno
	if d.next, _, d.seals, d.secret, e = path.Make(d.s, from, 2, 0, seed, nil); e != api.OK {
		t.Fatal(e)
	}
	d.row, _ = path.Secrets(d.s, seed, 4)
	return d
}

const whole = "m1 P m2 P m3 P m4 P m5 P m6 P m7 P m8"

// has is the keys that old made, of these nodes.
func (d *desk) has(nodes ...int) []api.Key {
	var l []api.Key
	for _, x := range nodes {
		l = append(l, api.Key{Node: x, Secret: old(d.s, x)})
	}
	return l
}

func (d *desk) opens(what string, leaf int, keys []api.Key, seals []api.Seal, want string) {
	d.t.Helper()
	l, secret, e := path.Open(d.s, d.next, 2, leaf, keys, seals)
	if e != api.OK || toldKeys(d.s, l) != want || secret != d.secret {
		d.t.Error(what, leaf, toldKeys(d.s, l), spell(d.s, secret), e)
	}
}

func (d *desk) refuses(what string, from, leaf int, keys []api.Key, seals []api.Seal, want api.Errno) {
	d.t.Helper()
	many := d.s.Len()
	if l, secret, e := path.Open(d.s, d.next, from, leaf, keys, seals); e != want || l != nil || secret != 0 || d.s.Len() != many {
		d.t.Error(what, from, leaf, toldKeys(d.s, l), secret, e)
	}
}

func TestP93Open(t *testing.T) {
	d := newDesk(t, whole)
	d.opens("beside", 3, d.has(6, 5, 3, 7), d.seals, "3:npp7, 5:np7, 6:106, 7:nppp7")
	d.opens("beside, its leaf alone", 3, d.has(6), d.seals, "3:npp7, 5:np7, 6:106, 7:nppp7")
	d.opens("other quarter", 0, d.has(0, 1, 3, 7), d.seals, "0:100, 1:101, 3:npp7, 7:nppp7")
	d.opens("other quarter", 1, d.has(7, 3, 2, 1), d.seals, "1:101, 2:102, 3:npp7, 7:nppp7")
	d.opens("other half", 4, d.has(8, 9, 11, 7), d.seals, "7:nppp7, 8:108, 9:109, 11:111")
	d.opens("other half, one key", 7, d.has(11), d.seals, "7:nppp7, 11:111")
}

func TestP93UnmergedAndBlank(t *testing.T) {
	d := newDesk(t, "m1 . m2 . m3 . . . m5 P m6 P{5,6} m7 . .")
	if got := toldSeals(d.s, d.seals); got != "3>0: p7 by pub 100, 3>2: p7 by pub 102, 7>11: pp7 by pub 111, 7>10: pp7 by pub 110, 7>12: pp7 by pub 112" {
		t.Fatal(got)
	}
	d.opens("by a leaf", 1, d.has(2), d.seals, "2:102, 3:np7, 7:npp7")
	d.opens("by a parent", 4, d.has(8, 9, 11), d.seals, "7:npp7, 8:108, 9:109, 11:111")
	d.opens("unmerged", 5, d.has(9, 10), d.seals, "7:npp7, 9:109, 10:110")
	d.opens("unmerged", 6, d.has(12), d.seals, "7:npp7, 12:112")
	d.refuses("below no target that it has", 2, 6, d.has(13, 9), d.seals, api.ErrKey)
	d.refuses("blank", 2, 7, d.has(14, 11), d.seals, api.ErrArg)
	d.refuses("from a blank one", 3, 1, d.has(2), d.seals, api.ErrArg)
}

// TestP93FirstSeal: of several seals, the first one at the joint that opens holds, whatever is in it.
func TestP93FirstSeal(t *testing.T) {
	d := newDesk(t, whole)
	keys := d.has(6)
	good := d.seals[0]
	bad := api.Seal{At: 5, To: 6, Term: put(t, d.s, sealed(d.next.Nodes[6].Pub, old(d.s, 50)))}
	closed := api.Seal{At: 5, To: 6, Term: put(t, d.s, sealed(put(t, d.s, public(old(d.s, 51))), d.row[1]))}
	elsewhere := []api.Seal{{At: 3, To: 6, Term: bad.Term}, {At: 6, To: 5, Term: bad.Term}, {At: -1, To: 6, Term: bad.Term}, {At: 5, To: 4, Term: bad.Term}, {At: 5, To: -1, Term: bad.Term}}
	noSeal := []api.Seal{{At: 5, To: 6, Term: old(d.s, 6)}, {At: 5, To: 6, Term: d.next.Nodes[6].Pub}, {At: 5, To: 6, Term: put(t, d.s, api.Term{Kind: api.TmPair, A: d.next.Nodes[6].Pub, B: d.row[1]})}}
	for _, n := range append(wild, 0) {
		noSeal = append(noSeal, api.Seal{At: 5, To: 6, Term: n}, api.Seal{At: n, To: 6, Term: good.Term}, api.Seal{At: 5, To: n, Term: good.Term})
	}
	passed := slices.Concat([]api.Seal{closed}, elsewhere, noSeal)
	d.opens("behind those that do not open", 3, keys, append(passed, good, bad), "3:npp7, 5:np7, 6:106, 7:nppp7")
	d.refuses("none of them", 2, 3, keys, passed, api.ErrKey)
	d.refuses("the first one opens, and is wrong", 2, 3, keys, []api.Seal{bad, good}, api.ErrKey)
	d.refuses("no seals", 2, 3, keys, nil, api.ErrKey)
	d.refuses("no keys", 2, 3, nil, d.seals, api.ErrKey)
	d.refuses("the secret of another node", 2, 3, keys, []api.Seal{{At: 5, To: 6, Term: put(t, d.s, sealed(d.next.Nodes[6].Pub, d.row[2]))}, good}, api.ErrKey)
	d.refuses("the key, not its secret", 2, 3, keys, []api.Seal{{At: 5, To: 6, Term: put(t, d.s, sealed(d.next.Nodes[6].Pub, put(t, d.s, kdf(2, d.row[1]))))}}, api.ErrKey)
}

// TestP93FirstKey: of several keys of the seal's node, the first one alone is tried.
func TestP93FirstKey(t *testing.T) {
	d := newDesk(t, whole)
	good := d.has(6)[0]
	wrong := []api.Key{{Node: 6, Secret: old(d.s, 5)}, {Node: 6}, {Node: 6, Secret: -1}, {Node: 6, Secret: 1 << 40}, {Node: 6, Secret: d.next.Nodes[5].Pub}}
	for _, k := range wrong {
		d.refuses("a wrong one ahead", 2, 3, []api.Key{k, good}, d.seals, api.ErrKey)
		d.opens("a wrong one behind", 3, []api.Key{good, k, good}, d.seals, "3:npp7, 5:np7, 6:106, 7:nppp7")
		// The first seal's node has no key that opens: the next seal has.
		direct := api.Seal{At: 5, To: 20, Term: d.seals[0].Term}
		d.opens("another seal", 3, []api.Key{k, {Node: 20, Secret: good.Secret}}, append(slices.Clone(d.seals), direct), "3:npp7, 5:np7, 7:nppp7")
	}
}

// TestP93SealedWithItself: a seal opens by what its key is the public one of, or by the very term that it is sealed with.
func TestP93SealedWithItself(t *testing.T) {
	d := newDesk(t, whole)
	for _, with := range []int{old(d.s, 6), old(d.s, 77), d.next.Nodes[6].Pub, d.seals[0].Term} {
		x := api.Seal{At: 5, To: 6, Term: put(t, d.s, sealed(with, d.row[1]))}
		l, secret, e := path.Open(d.s, d.next, 2, 3, []api.Key{{Node: 6, Secret: with}}, []api.Seal{x})
		if e != api.OK || secret != d.secret || len(l) < 3 || toldKeys(d.s, l[:2]) != "3:npp7, 5:np7" {
			t.Error(spell(d.s, with), toldKeys(d.s, l), e)
		}
		hidden := api.Seal{At: 5, To: 6, Term: put(t, d.s, sealed(put(t, d.s, api.Term{Kind: api.TmHash, A: with}), d.row[1]))}
		d.refuses("a digest", 2, 3, []api.Key{{Node: 6, Secret: with}}, []api.Seal{hidden}, api.ErrKey)
	}
}

// TestP93KeysKept: of the keys that were there those stay whose node still has their public key.
func TestP93KeysKept(t *testing.T) {
	d := newDesk(t, whole)
	keys := d.has(6, 14, 0, 8, 11, 13)
	more := slices.Clone(keys)
	for _, n := range append(wild, 15, 16, 99) {
		more = append(more, api.Key{Node: n, Secret: old(d.s, 0)}, api.Key{Node: 0, Secret: n}, api.Key{Node: 12, Secret: n})
	}
	more = append(more, api.Key{Node: 2, Secret: old(d.s, 0)}, api.Key{Node: 12, Secret: d.next.Nodes[12].Pub}, api.Key{Node: 14, Secret: old(d.s, 14)})
	// Old and new keys of nodes on the path, and one of a node below the joint that is right.
	more = append(more, d.has(3, 5, 7)...)
	more = append(more, api.Key{Node: 3, Secret: put(t, d.s, kdf(2, d.row[2]))}, api.Key{Node: 4, Secret: put(t, d.s, kdf(2, d.row[0]))})
	d.opens("few", 3, keys, d.seals, "0:100, 3:npp7, 5:np7, 6:106, 7:nppp7, 8:108, 11:111, 13:113, 14:114")
	d.opens("more", 3, more, d.seals, "0:100, 3:npp7, 4:n7, 5:np7, 6:106, 7:nppp7, 8:108, 11:111, 13:113, 14:114")
}

// TestP93KeptBehindTheFirst: which key of a node opens and which one stays are two questions.
func TestP93KeptBehindTheFirst(t *testing.T) {
	d := newDesk(t, whole)
	strange := old(d.s, 77)
	x := api.Seal{At: 5, To: 6, Term: put(t, d.s, sealed(put(t, d.s, public(strange)), d.row[1]))}
	keys := append([]api.Key{{Node: 6, Secret: strange}}, d.has(6)...)
	d.opens("the second one stays", 3, keys, []api.Seal{x}, "3:npp7, 5:np7, 6:106, 7:nppp7")
	d.opens("none stays", 3, keys[:1], []api.Seal{x}, "3:npp7, 5:np7, 7:nppp7")
}

// TestP93HigherJoint: where the nearest node above both is blank, the joint is above that.
func TestP93HigherJoint(t *testing.T) {
	d := newDesk(t, whole)
	d.next.Nodes[5] = api.Node{}
	_, d.next.Nodes[3].Pub, _ = path.Node(d.s, d.row[1])
	_, d.next.Nodes[7].Pub, _ = path.Node(d.s, d.row[2])
	d.secret = d.row[3]
	x := api.Seal{At: 3, To: 6, Term: put(t, d.s, sealed(d.next.Nodes[6].Pub, d.row[1]))}
	d.opens("above the blank one", 3, d.has(6), append(d.seals, x), "3:np7, 6:106, 7:npp7")
	d.refuses("at the blank one", 2, 3, d.has(6), d.seals, api.ErrKey)
}

func TestP93NoJoint(t *testing.T) {
	d := newDesk(t, whole)
	for _, node := range []int{3, 5, 7} {
		d.next.Nodes[node] = api.Node{}
	}
	var seals []api.Seal
	for at := -3; at < 15; at++ {
		seals = append(seals, api.Seal{At: at, To: 6, Term: d.seals[0].Term})
	}
	d.refuses("no joint", 2, 3, d.has(6), seals, api.ErrKey)
}

// TestP93AboveRefuses: Above's error is Open's, and no other seal is tried behind it.
func TestP93AboveRefuses(t *testing.T) {
	for _, node := range []int{5, 3, 7} {
		d := newDesk(t, whole)
		d.next.Nodes[node].Pub = put(t, d.s, public(old(d.s, 60)))
		d.refuses("another key above", 2, 3, d.has(6), append(d.seals, d.seals...), api.ErrKey)
	}
}

func TestP93Wrong(t *testing.T) {
	d := newDesk(t, whole)
	keys := d.has(6)
	for _, n := range append(wild, 8, 10, 16) {
		d.refuses("no such leaf", n, 3, keys, d.seals, api.ErrArg)
		d.refuses("no such leaf", 2, n, keys, d.seals, api.ErrArg)
		d.refuses("no such leaf", n, n, keys, d.seals, api.ErrArg)
	}
	for n := range 8 {
		d.refuses("both are one", n, n, keys, d.seals, api.ErrArg)
	}
	good, s := d.next, d.s
	for what, x := range noTrees() {
		d.next = x
		d.refuses(what, 0, 1, keys, d.seals, api.ErrArg)
	}
	d.next = api.Tree{}
	d.refuses("no nodes", 0, 1, keys, d.seals, api.ErrArg)
	d.next = api.Tree{Nodes: slices.Clone(good.Nodes)}
	d.next.Nodes[14].Pub = math.MaxInt
	d.refuses("a far leaf is no term", 2, 3, keys, d.seals, api.ErrArg)
	d.next = good
	for _, none := range lost() {
		d.s = none
		d.refuses("no store", 2, 3, keys, d.seals, api.ErrNil)
		d.refuses("no store", -1, -1, nil, nil, api.ErrNil)
	}
	d.s = term.New()
	d.refuses("another store", 2, 3, keys, d.seals, api.ErrArg)
	d.s = s
	d.opens("and the right one", 3, keys, d.seals, "3:npp7, 5:np7, 6:106, 7:nppp7")
}
