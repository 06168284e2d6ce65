package store_test

import (
	"maps"
	"slices"
	"strings"
	"testing"

	"phratry/api"
	"phratry/store"
)

// dice tells the same row of numbers at every run.
type dice uint64

func (x *dice) next() uint64 {
	*x = *x*6364136223846793005 + 1442695040888963407
	return uint64(*x) >> 33
}

func (x *dice) roll(n int) int { return int(x.next() % uint64(n)) }

func (x *dice) bits() int64 { return int64(x.next()<<33 ^ x.next()<<11 ^ x.next()) }

func (x *dice) name() string {
	b := make([]byte, x.roll(3))
	for i := range b {
		b[i] = "\x00Aab\xff"[x.roll(5)]
	}
	return string(b)
}

func (x *dice) pairs() []api.Pair {
	l := make([]api.Pair, x.roll(5))
	for i := range l {
		l[i] = api.Pair{Name: x.name(), Gone: x.roll(3) == 0}
		if !l[i].Gone || x.roll(20) == 0 {
			l[i].Text = strings.Repeat("\x80", x.roll(100))
		}
		if x.roll(60) == 0 {
			l[i].Text = strings.Repeat("y", most+1)
		}
	}
	return l
}

// plainly is a store's disk by the chapters' words: its pairs, how many changes, and what a cut leaves.
type plainly struct {
	l      []api.Pair
	number int
	up     bool
	cut    bool
	left   int
	bits   int64
}

// put: how a Change comes out that finds its disk up and has room.
func (p *plainly) put(l []api.Pair) api.Errno {
	cost := (len(packed(l))+63)/64 + 3
	if p.cut && p.left < cost {
		p.up = false
		if p.left == cost-1 && (p.bits&3 == 1 || p.bits&3 == 2) {
			p.l, p.number = l, p.number+1
		}
		return api.ErrDown
	}
	p.left -= cost
	p.l, p.number = l, p.number+1
	return api.OK
}

// changed: what a list of pairs makes of another one, or why it may not.
func changed(before, l []api.Pair) ([]api.Pair, api.Errno) {
	next := map[string]api.Pair{}
	for _, p := range before {
		next[p.Name] = p
	}
	for i, p := range l {
		switch {
		case len(p.Text) > most:
			return nil, api.ErrLimit
		case p.Gone && p.Text != "":
			return nil, api.ErrArg
		case slices.ContainsFunc(l[:i], func(q api.Pair) bool { return q.Name == p.Name }):
			return nil, api.ErrTwice
		case p.Gone:
			delete(next, p.Name)
		default:
			next[p.Name] = p
		}
	}
	return slices.SortedFunc(maps.Values(next), func(p, q api.Pair) int { return strings.Compare(p.Name, q.Name) }), api.OK
}

// TestPlays holds stores against the chapter's words: changes, cuts, crashes, opened anew again and again.
func TestPlays(t *testing.T) {
	x := dice(7)
	for round := range 300 {
		sectors := 4 + x.roll(60)
		room := (sectors - 2) / 2 * 64
		d, p := made(t, sectors), &plainly{up: true}
		s := opened(t, d)
		var l []api.Pair // what s is to tell
		number, lost := 0, false
		for step := range 120 {
			switch kind := x.roll(20); {
			case kind == 0:
				if e := d.Crash(x.bits()); p.up != (e == api.OK) {
					t.Fatalf("round %d, step %d: Crash: %v", round, step, e)
				}
				p.up = false
			case kind < 3 && p.up:
				p.cut, p.left, p.bits = true, x.roll(30), x.bits()
				ok(t, "Cut", d.Cut(p.left, p.bits))
			case kind < 10 && !p.up:
				up(t, d)
				p.up, p.cut = true, false
			case kind < 12:
				again, e := store.Open(d)
				if !p.up {
					is(t, "Open", e, api.ErrDown)
					break
				}
				ok(t, "Open", e)
				s, l, number, lost = again, p.l, p.number, false
			default:
				change := x.pairs()
				next, want := changed(l, change)
				switch {
				case want != api.OK:
				case lost || !p.up:
					want, lost = api.ErrDown, true
				case len(packed(next)) > room:
					want = api.ErrFull
				default:
					want = p.put(next)
					lost = want == api.ErrDown
				}
				is(t, "Change", s.Change(change), want)
				if want == api.OK {
					l, number = next, number+1
				}
			}
			has(t, s, number, l)
			if p.up {
				has(t, opened(t, d), p.number, p.l)
			}
			if t.Failed() {
				t.Fatalf("round %d, step %d", round, step)
			}
		}
	}
}
