package journal_test

import (
	"testing"

	"phratry/api"
	"phratry/journal"
)

// dice tells the same row of numbers at every run.
type dice uint64

func (x *dice) next() uint64 {
	*x = *x*6364136223846793005 + 1442695040888963407
	return uint64(*x) >> 33
}

func (x *dice) roll(n int) int { return int(x.next() % uint64(n)) }

func (x *dice) bits() int64 { return int64(x.next()<<33 ^ x.next()<<11 ^ x.next()) }

func (x *dice) text(most int) string {
	b := make([]byte, x.roll(most+1))
	for i := range b {
		b[i] = byte(x.roll(256))
	}
	return string(b)
}

// plainly is a journal's disk by the chapter's words: its text, its number, and what a cut leaves.
type plainly struct {
	text   string
	number int
	up     bool
	cut    bool
	left   int
	bits   int64
}

// put: how a Put comes out that finds its disk up and has room.
func (p *plainly) put(s string) api.Errno {
	cost := (len(s)+63)/64 + 3
	if p.cut && p.left < cost {
		p.up = false
		if p.left == cost-1 && (p.bits&3 == 1 || p.bits&3 == 2) {
			p.text, p.number = s, p.number+1
		}
		return api.ErrDown
	}
	p.left -= cost
	p.text, p.number = s, p.number+1
	return api.OK
}

// TestPlays holds journals against the chapter's words: puts, cuts, crashes, opened anew again and again.
func TestPlays(t *testing.T) {
	x := dice(6)
	for round := range 300 {
		sectors := 4 + x.roll(90)
		room := (sectors - 2) / 2 * 64
		d, p := made(t, sectors), &plainly{up: true}
		j := opened(t, d)
		text, number, lost := "", 0, false // what j is to tell
		for step := range 120 {
			switch kind := x.roll(20); {
			case kind == 0:
				if e := d.Crash(x.bits()); p.up != (e == api.OK) {
					t.Fatalf("round %d, step %d: Crash: %v", round, step, e)
				}
				p.up = false
			case kind < 4 && p.up:
				p.cut, p.left, p.bits = true, x.roll(12), x.bits()
				ok(t, "Cut", d.Cut(p.left, p.bits))
			case kind < 10 && !p.up:
				ok(t, "Start", d.Start())
				p.up, p.cut = true, false
			case kind < 12:
				again, e := journal.Open(d)
				if !p.up {
					is(t, "Open", e, api.ErrDown)
					break
				}
				ok(t, "Open", e)
				j, text, number, lost = again, p.text, p.number, false
			default:
				s, want := x.text(room+room/8), api.OK
				switch {
				case lost || !p.up:
					want = api.ErrDown
				case len(s) > room:
					want = api.ErrFull
				default:
					want = p.put(s)
				}
				is(t, "Put", j.Put(s), want)
				if want == api.OK {
					text, number = s, number+1
				}
				lost = lost || want == api.ErrDown
			}
			if lost || !p.up {
				refuses(t, j, number, room)
			} else {
				has(t, j, text, number, room)
			}
			if p.up {
				has(t, opened(t, d), p.text, p.number, room)
			}
			if t.Failed() {
				t.Fatalf("round %d, step %d", round, step)
			}
		}
	}
}
