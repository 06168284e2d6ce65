package disk_test

import (
	"strings"
	"testing"

	"phratry/api"
)

// dice tells the same row of numbers at every run.
type dice uint64

func (x *dice) next() uint64 {
	*x = *x*6364136223846793005 + 1442695040888963407
	return uint64(*x) >> 33
}

func (x *dice) roll(n int) int { return int(x.next() % uint64(n)) }

func (x *dice) bits() int64 { return int64(x.next()<<33 ^ x.next()<<11 ^ x.next()) }

type note struct {
	at int
	s  string
}

// plainly is a disk by the chapter's words: what was synced, and every write since.
type plainly struct {
	synced []string
	since  []note
	up     bool
	cut    bool
	left   int
	bits   int64
	count  int
}

func plain(sectors int) *plainly {
	p := &plainly{up: true}
	for range sectors {
		p.synced = append(p.synced, full(nought))
	}
	return p
}

func (p *plainly) read(at int) (string, api.Errno) {
	if !p.up {
		return "", api.ErrDown
	}
	if at < 0 || at >= len(p.synced) {
		return "", api.ErrArg
	}
	for i := len(p.since) - 1; i >= 0; i-- {
		if p.since[i].at == at {
			return p.since[i].s, api.OK
		}
	}
	return p.synced[at], api.OK
}

func (p *plainly) goesDown(bits int64) {
	for i, w := range p.since {
		if i >= 31 {
			break
		}
		was := p.synced[w.at]
		low, high := uint64(bits)>>(2*i)&1, uint64(bits)>>(2*i+1)&1
		switch {
		case high == 0 && low == 1:
			p.synced[w.at] = w.s
		case high == 1 && low == 0:
			p.synced[w.at] = w.s[:32] + was[32:]
		case high == 1 && low == 1:
			p.synced[w.at] = was[:32] + w.s[32:]
		}
	}
	p.since, p.up = nil, false
}

// takes tells whether the next write or sync is done.
func (p *plainly) takes() bool {
	if p.cut && p.left == 0 {
		p.goesDown(p.bits)
		return false
	}
	p.left--
	p.count++
	return true
}

func (p *plainly) write(at int, s string) api.Errno {
	switch {
	case !p.up:
		return api.ErrDown
	case at < 0 || at >= len(p.synced) || len(s) != 64:
		return api.ErrArg
	case !p.takes():
		return api.ErrDown
	}
	p.since = append(p.since, note{at, s})
	return api.OK
}

func (p *plainly) sync() api.Errno {
	if !p.up || !p.takes() {
		return api.ErrDown
	}
	for _, w := range p.since {
		p.synced[w.at] = w.s
	}
	p.since = nil
	return api.OK
}

func (p *plainly) setCut(n int, bits int64) api.Errno {
	if !p.up {
		return api.ErrDown
	}
	if n < 0 {
		return api.ErrArg
	}
	p.cut, p.left, p.bits = true, n, bits
	return api.OK
}

func (p *plainly) crash(bits int64) api.Errno {
	if !p.up {
		return api.ErrDown
	}
	p.goesDown(bits)
	return api.OK
}

func (p *plainly) start() api.Errno {
	if p.up {
		return api.ErrBusy
	}
	p.up, p.cut = true, false
	return api.OK
}

func letters(x *dice) string {
	s := strings.Repeat(string(rune('a'+x.roll(26))), 32) + strings.Repeat(string(rune('A'+x.roll(26))), 32)
	if x.roll(30) == 0 {
		return s[:x.roll(64)]
	}
	return s
}

// TestPlays holds disks against the chapter's words, call by call.
func TestPlays(t *testing.T) {
	x := dice(5)
	for round := range 400 {
		sectors := 1 + x.roll(6)
		syncs := 1 + x.roll(60) // how seldom: rows of writes both below and above 31
		d, p := made(t, sectors), plain(sectors)
		for step := range 200 {
			var got, want api.Errno
			kind := x.roll(70)
			switch {
			case kind == 0:
				b := x.bits()
				got, want = d.Crash(b), p.crash(b)
			case kind == 1:
				n, b := x.roll(12)-1, x.bits()
				got, want = d.Cut(n, b), p.setCut(n, b)
			case kind == 2 || !p.up && kind < 30:
				got, want = d.Start(), p.start()
			case x.roll(syncs) == 0:
				got, want = d.Sync(), p.sync()
			default:
				at, s := x.roll(sectors), letters(&x)
				if x.roll(30) == 0 {
					at = x.roll(10) - 3
				}
				got, want = d.Write(at, s), p.write(at, s)
			}
			if got != want {
				t.Fatalf("round %d, step %d: %v, not %v", round, step, got, want)
			}
			if d.Up() != p.up || d.Count() != p.count || d.Unsynced() != len(p.since) || d.Len() != sectors {
				t.Fatalf("round %d, step %d: Up %v, Count %d, Unsynced %d, Len %d", round, step, d.Up(), d.Count(), d.Unsynced(), d.Len())
			}
			for at := -1; at <= sectors; at++ {
				s, e := d.Read(at)
				if ws, we := p.read(at); s != ws || e != we {
					t.Fatalf("round %d, step %d: Read(%d) = %q, %v, not %q, %v", round, step, at, s, e, ws, we)
				}
			}
		}
	}
}

// TestP55Follows asks of every crash what the chapter says follows, with nothing worked out but lists of what was put.
func TestP55Follows(t *testing.T) {
	x := dice(55)
	for round := range 500 {
		d := made(t, 3)
		var synced [3]string
		for at := range synced {
			synced[at] = full(string(rune('0' + at)))
			ok(t, "Write", d.Write(at, synced[at]))
		}
		ok(t, "Sync", d.Sync())
		for crash := range 4 {
			var first, last [3]string
			for at, s := range synced {
				first[at], last[at] = s[:1], s[32:33]
			}
			for range x.roll(45) {
				at, a, b := x.roll(2), string(rune('a'+x.roll(26))), string(rune('a'+x.roll(26)))
				ok(t, "Write", d.Write(at, halves(a, b)))
				first[at] += a
				last[at] += b
			}
			ok(t, "Crash", d.Crash(x.bits()))
			ok(t, "Start", d.Start())
			for at := range synced {
				s, e := d.Read(at)
				if e != api.OK || len(s) != 64 || s != halves(s[:1], s[32:33]) ||
					!strings.Contains(first[at], s[:1]) || !strings.Contains(last[at], s[32:33]) {
					t.Fatalf("round %d, crash %d: the sector %d has %q, %v", round, crash, at, s, e)
				}
				synced[at] = s
			}
			if synced[2] != full("2") {
				t.Fatalf("round %d, crash %d: what was synced is gone: %q", round, crash, synced[2])
			}
		}
	}
}

// TestManyWrites: a disk goes on however much was written and never synced.
func TestManyWrites(t *testing.T) {
	d := made(t, api.MaxSectors)
	const writes = 200000
	for i := range writes {
		if e := d.Write(i%api.MaxSectors, full(string(rune('a'+i%26)))); e != api.OK {
			t.Fatalf("Write %d: %v", i, e)
		}
	}
	counts(t, d, true, writes, writes)
	ok(t, "Crash", d.Crash(0))
	ok(t, "Start", d.Start())
	for at := range api.MaxSectors {
		if s, e := d.Read(at); s != full(nought) || e != api.OK {
			t.Fatalf("Read(%d) = %q, %v", at, s, e)
		}
	}
}
