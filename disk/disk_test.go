package disk_test

import (
	"math"
	"strings"
	"testing"

	"phratry/api"
	"phratry/disk"
)

// full is a sector of one letter.
func full(c string) string { return strings.Repeat(c, api.SectorSize) }

// halves is a sector of two letters.
func halves(a, b string) string { return strings.Repeat(a, 32) + strings.Repeat(b, 32) }

const nought = "\x00"

var wild = []int{math.MinInt, math.MinInt + 1, math.MinInt32, -64, -2, -1, math.MaxInt32, math.MaxInt - 1, math.MaxInt}

func made(t *testing.T, sectors int) *disk.Disk {
	t.Helper()
	d, e := disk.New(sectors)
	if d == nil || e != api.OK {
		t.Fatalf("New(%d): %v, %v", sectors, d, e)
	}
	return d
}

func is(t *testing.T, what string, got, want api.Errno) {
	t.Helper()
	if got != want {
		t.Errorf("%s: %v, not %v", what, got, want)
	}
}

func ok(t *testing.T, what string, e api.Errno) {
	t.Helper()
	is(t, what, e, api.OK)
}

// reads asks for sectors from the first one on.
func reads(t *testing.T, d *disk.Disk, want ...string) {
	t.Helper()
	for at, w := range want {
		if s, e := d.Read(at); s != w || e != api.OK {
			t.Errorf("Read(%d) = %q, %v, not %q", at, s, e, w)
		}
	}
}

// counts asks for all that is told of a disk beside its bytes.
func counts(t *testing.T, d *disk.Disk, up bool, count, unsynced int) {
	t.Helper()
	if d.Up() != up || d.Count() != count || d.Unsynced() != unsynced {
		t.Errorf("Up %v, Count %d, Unsynced %d, not %v, %d, %d", d.Up(), d.Count(), d.Unsynced(), up, count, unsynced)
	}
}

func TestP51New(t *testing.T) {
	for _, n := range append([]int{0}, wild...) {
		want := api.ErrArg
		if n > 0 {
			want = api.ErrLimit
		}
		if d, e := disk.New(n); d != nil || e != want {
			t.Errorf("New(%d): %v, %v, not %v", n, d, e, want)
		}
	}
	if d, e := disk.New(api.MaxSectors + 1); d != nil || e != api.ErrLimit {
		t.Errorf("one above the limit: %v, %v", d, e)
	}
	for _, n := range []int{1, 2, 3, 64, 100, api.MaxSectors - 1, api.MaxSectors} {
		d := made(t, n)
		if d.Len() != n {
			t.Errorf("Len %d of %d", d.Len(), n)
		}
		counts(t, d, true, 0, 0)
		for at := range n {
			if s, e := d.Read(at); s != full(nought) || e != api.OK {
				t.Fatalf("Read(%d) of %d new ones: %q, %v", at, n, s, e)
			}
		}
	}
}

func TestP51LenStays(t *testing.T) {
	d := made(t, 3)
	ok(t, "Write", d.Write(2, full("a")))
	ok(t, "Crash", d.Crash(1))
	if d.Len() != 3 {
		t.Errorf("down: Len %d", d.Len())
	}
	ok(t, "Start", d.Start())
	if d.Len() != 3 {
		t.Errorf("up again: Len %d", d.Len())
	}
}

func TestP52WriteAndRead(t *testing.T) {
	d := made(t, 3)
	ok(t, "Write", d.Write(0, full("a")))
	counts(t, d, true, 1, 1)
	reads(t, d, full("a"), full(nought), full(nought))
	ok(t, "Write", d.Write(2, full("b")))
	ok(t, "Write", d.Write(0, full("c")))
	counts(t, d, true, 3, 3)
	reads(t, d, full("c"), full(nought), full("b"))
	ok(t, "the same again", d.Write(0, full("c")))
	counts(t, d, true, 4, 4)
	ok(t, "Sync", d.Sync())
	counts(t, d, true, 5, 0)
	reads(t, d, full("c"), full(nought), full("b"))
	ok(t, "a sync of nothing", d.Sync())
	counts(t, d, true, 6, 0)
	ok(t, "noughts", d.Write(0, full(nought)))
	counts(t, d, true, 7, 1)
	reads(t, d, full(nought), full(nought), full("b"))
}

func TestP52AllBytes(t *testing.T) {
	d := made(t, 4)
	for at := range 4 {
		var b strings.Builder
		for i := range api.SectorSize {
			b.WriteByte(byte(at*api.SectorSize + i))
		}
		ok(t, "Write", d.Write(at, b.String()))
		if s, e := d.Read(at); s != b.String() || e != api.OK {
			t.Errorf("Read(%d) = %q, %v", at, s, e)
		}
	}
}

func TestP52WrongWritesAndReads(t *testing.T) {
	d := made(t, 2)
	ok(t, "Write", d.Write(1, full("a")))
	for _, at := range append([]int{2, 3, 4096}, wild...) {
		is(t, "Write beside the sectors", d.Write(at, full("b")), api.ErrArg)
		if s, e := d.Read(at); s != "" || e != api.ErrArg {
			t.Errorf("Read(%d) = %q, %v", at, s, e)
		}
	}
	for _, n := range []int{0, 1, 32, 63, 65, 128, 100000} {
		is(t, "Write of a wrong length", d.Write(1, strings.Repeat("b", n)), api.ErrArg)
	}
	counts(t, d, true, 1, 1)
	reads(t, d, full(nought), full("a"))
}

func TestP52Down(t *testing.T) {
	d := made(t, 2)
	ok(t, "Write", d.Write(0, full("a")))
	ok(t, "Sync", d.Sync())
	ok(t, "Write", d.Write(1, full("b")))
	ok(t, "Crash", d.Crash(0))
	counts(t, d, false, 3, 0)
	for _, at := range append([]int{0, 1, 2}, wild...) {
		is(t, "Write", d.Write(at, full("c")), api.ErrDown)
		is(t, "Write of a wrong length", d.Write(at, ""), api.ErrDown)
		if s, e := d.Read(at); s != "" || e != api.ErrDown {
			t.Errorf("Read(%d) = %q, %v", at, s, e)
		}
	}
	is(t, "Sync", d.Sync(), api.ErrDown)
	counts(t, d, false, 3, 0)
	ok(t, "Start", d.Start())
	counts(t, d, true, 3, 0)
	reads(t, d, full("a"), full(nought))
}

func TestP53Cut(t *testing.T) {
	for n := range 6 {
		d := made(t, 2)
		ok(t, "Cut", d.Cut(n, 0x5555))
		for i := range n {
			if i%2 == 0 {
				ok(t, "Write", d.Write(i%2, full("a")))
			} else {
				ok(t, "Sync", d.Sync())
			}
			counts(t, d, true, i+1, 1-i%2)
		}
		e := d.Write(1, full("b"))
		is(t, "the Write that is cut", e, api.ErrDown)
		counts(t, d, false, n, 0)
		ok(t, "Start", d.Start())
		counts(t, d, true, n, 0)
		want := full("a")
		if n == 0 {
			want = full(nought)
		}
		reads(t, d, want, full(nought))
	}
}

func TestP53CutOfASync(t *testing.T) {
	for bits, want := range []string{full(nought), full("a"), halves("a", nought), halves(nought, "a")} {
		d := made(t, 1)
		ok(t, "Cut", d.Cut(1, int64(bits)))
		ok(t, "Write", d.Write(0, full("a")))
		is(t, "the Sync that is cut", d.Sync(), api.ErrDown)
		counts(t, d, false, 1, 0)
		ok(t, "Start", d.Start())
		reads(t, d, want)
	}
}

func TestP53CutWaits(t *testing.T) {
	d := made(t, 1)
	ok(t, "Write", d.Write(0, full("a")))
	ok(t, "Cut", d.Cut(0, 1))
	counts(t, d, true, 1, 1)
	reads(t, d, full("a"))
	is(t, "a wrong Write is none", d.Write(1, full("b")), api.ErrArg)
	is(t, "a wrong Write is none", d.Write(0, "b"), api.ErrArg)
	is(t, "a wrong Cut is none", d.Cut(-1, 0), api.ErrArg)
	is(t, "Start", d.Start(), api.ErrBusy)
	counts(t, d, true, 1, 1)
	is(t, "the Write that is cut", d.Write(0, full("c")), api.ErrDown)
	counts(t, d, false, 1, 0)
	ok(t, "Start", d.Start())
	reads(t, d, full("a"))
}

func TestP53LaterCut(t *testing.T) {
	d := made(t, 1)
	ok(t, "Cut", d.Cut(0, 0))
	ok(t, "a later Cut", d.Cut(2, 2))
	ok(t, "Write", d.Write(0, full("a")))
	ok(t, "a wider Cut", d.Cut(2, 3))
	ok(t, "Write", d.Write(0, full("b")))
	ok(t, "Write", d.Write(0, full("c")))
	is(t, "Sync", d.Sync(), api.ErrDown)
	counts(t, d, false, 3, 0)
	ok(t, "Start", d.Start())
	reads(t, d, halves(nought, "a"))
	ok(t, "Cut", d.Cut(5, 0))
	ok(t, "a narrower Cut", d.Cut(0, 0))
	is(t, "Sync", d.Sync(), api.ErrDown)
}

func TestP53StartIsWithoutACut(t *testing.T) {
	falls := []func(d *disk.Disk) api.Errno{
		func(d *disk.Disk) api.Errno { return d.Crash(0) },
		func(d *disk.Disk) api.Errno { d.Cut(0, 0); d.Sync(); return api.OK },
	}
	for _, fall := range falls {
		d := made(t, 1)
		ok(t, "Cut", d.Cut(2, 0))
		ok(t, "Write", d.Write(0, full("a")))
		ok(t, "going down", fall(d))
		ok(t, "Start", d.Start())
		for range 5 {
			ok(t, "Write", d.Write(0, full("b")))
			ok(t, "Sync", d.Sync())
		}
		counts(t, d, true, 11, 0)
		reads(t, d, full("b"))
	}
}

func TestP53WrongCuts(t *testing.T) {
	d := made(t, 1)
	for _, n := range wild {
		if n < 0 {
			is(t, "Cut", d.Cut(n, 0), api.ErrArg)
		} else {
			ok(t, "Cut", d.Cut(n, 0))
		}
		ok(t, "Write", d.Write(0, full("a")))
		ok(t, "Sync", d.Sync())
	}
	ok(t, "Crash", d.Crash(0))
	for _, n := range append([]int{0, 1}, wild...) {
		is(t, "Cut of one that is down", d.Cut(n, 0), api.ErrDown)
	}
}

func TestP53CrashStartUp(t *testing.T) {
	d := made(t, 1)
	is(t, "Start of one that is up", d.Start(), api.ErrBusy)
	ok(t, "Write", d.Write(0, full("a")))
	is(t, "Start of one that is up", d.Start(), api.ErrBusy)
	counts(t, d, true, 1, 1)
	ok(t, "Crash", d.Crash(1))
	counts(t, d, false, 1, 0)
	is(t, "Crash of one that is down", d.Crash(0), api.ErrDown)
	counts(t, d, false, 1, 0)
	ok(t, "Start", d.Start())
	counts(t, d, true, 1, 0)
	reads(t, d, full("a"))
	is(t, "Start again", d.Start(), api.ErrBusy)
	ok(t, "Crash of nothing", d.Crash(0))
	ok(t, "Start", d.Start())
	reads(t, d, full("a"))
}

func TestP54NotThere(t *testing.T) {
	for _, d := range []*disk.Disk{nil, {}, new(disk.Disk)} {
		for _, n := range append([]int{0, 1}, wild...) {
			is(t, "Write", d.Write(n, full("a")), api.ErrNil)
			is(t, "Write of a wrong length", d.Write(n, ""), api.ErrNil)
			is(t, "Cut", d.Cut(n, 0), api.ErrNil)
			is(t, "Crash", d.Crash(int64(n)), api.ErrNil)
			is(t, "Sync", d.Sync(), api.ErrNil)
			is(t, "Start", d.Start(), api.ErrNil)
			if s, e := d.Read(n); s != "" || e != api.ErrNil {
				t.Errorf("Read: %q, %v", s, e)
			}
		}
		counts(t, d, false, 0, 0)
		if d.Len() != 0 {
			t.Errorf("Len %d", d.Len())
		}
	}
}

func TestP55Fates(t *testing.T) {
	a, b, c := full("a"), full("b"), full("c")
	for _, r := range []struct {
		bits int64
		want string
	}{
		{0, a}, {1, b}, {2, halves("b", "a")}, {3, halves("a", "b")},
		{4, c}, {5, c}, {6, c}, {7, c},
		{8, halves("c", "a")}, {9, halves("c", "b")}, {10, halves("c", "a")}, {11, halves("c", "b")},
		{12, halves("a", "c")}, {13, halves("b", "c")}, {14, halves("b", "c")}, {15, halves("a", "c")},
		{16, a}, {-16, a}, {-1, halves("a", "c")}, {math.MinInt64, a}, {math.MaxInt64, halves("a", "c")},
	} {
		d := made(t, 1)
		ok(t, "Write", d.Write(0, a))
		ok(t, "Sync", d.Sync())
		ok(t, "Write", d.Write(0, b))
		ok(t, "Write", d.Write(0, c))
		ok(t, "Crash", d.Crash(r.bits))
		ok(t, "Start", d.Start())
		if s, e := d.Read(0); s != r.want || e != api.OK {
			t.Errorf("bits %d: %q, %v, not %q", r.bits, s, e, r.want)
		}
	}
}

// TestP55Places: each write has its own two bits, and those behind the first 31 have none.
func TestP55Places(t *testing.T) {
	const writes = 70
	for i := range 32 {
		for fate, want := range []string{full(nought), full("a"), halves("a", nought), halves(nought, "a")} {
			d := made(t, writes)
			for at := range writes {
				ok(t, "Write", d.Write(at, full("a")))
			}
			counts(t, d, true, writes, writes)
			ok(t, "Crash", d.Crash(int64(uint64(fate)<<(2*i))))
			ok(t, "Start", d.Start())
			for at := range writes {
				w := full(nought)
				if at == i && i < 31 {
					w = want
				}
				if s, _ := d.Read(at); s != w {
					t.Fatalf("fate %d of the write %d: the sector %d has %q", fate, i, at, s)
				}
			}
		}
	}
}

func TestP55AllLostAndAllKept(t *testing.T) {
	for bits, kept := range map[int64]int{0: 0, 0x5555555555555555: 31, 0x1555555555555555: 31, 0x5555: 8} {
		d := made(t, 40)
		for at := range 40 {
			ok(t, "Write", d.Write(at, full("a")))
		}
		ok(t, "Sync", d.Sync())
		for at := range 40 {
			ok(t, "Write", d.Write(at, full("b")))
		}
		ok(t, "Crash", d.Crash(bits))
		ok(t, "Start", d.Start())
		for at := range 40 {
			want := full("a")
			if at < kept {
				want = full("b")
			}
			if s, _ := d.Read(at); s != want {
				t.Errorf("bits %x: the sector %d has %q", bits, at, s)
			}
		}
	}
}

func TestP55WhatSurvivedIsSynced(t *testing.T) {
	d := made(t, 2)
	ok(t, "Write", d.Write(0, full("a")))
	ok(t, "Write", d.Write(1, full("b")))
	ok(t, "Crash", d.Crash(1+4*2))
	ok(t, "Start", d.Start())
	reads(t, d, full("a"), halves("b", nought))
	ok(t, "Write", d.Write(0, full("c")))
	ok(t, "Crash", d.Crash(0))
	ok(t, "Start", d.Start())
	reads(t, d, full("a"), halves("b", nought))
}

func TestExamples(t *testing.T) {
	a, b, c, o := full("a"), full("b"), full("c"), full(nought)

	d := made(t, 2)
	ok(t, "Write", d.Write(0, a))
	reads(t, d, a)
	ok(t, "Crash", d.Crash(0))
	ok(t, "Start", d.Start())
	reads(t, d, o)

	for bits, want := range map[int64]string{1: b, 2: halves("b", "a")} {
		d = made(t, 2)
		ok(t, "Write", d.Write(0, a))
		ok(t, "Sync", d.Sync())
		ok(t, "Write", d.Write(0, b))
		if bits == 1 {
			ok(t, "Write", d.Write(0, c))
		}
		ok(t, "Crash", d.Crash(bits))
		ok(t, "Start", d.Start())
		reads(t, d, want)
	}

	d = made(t, 2)
	ok(t, "Cut", d.Cut(1, 0))
	ok(t, "Write", d.Write(0, a))
	is(t, "Write", d.Write(1, b), api.ErrDown)
	counts(t, d, false, 1, 0)
	ok(t, "Start", d.Start())
	reads(t, d, o)

	d = made(t, 2)
	ok(t, "Cut", d.Cut(0, 1))
	is(t, "Sync", d.Sync(), api.ErrDown)

	d = made(t, 2)
	is(t, "Write", d.Write(2, a), api.ErrArg)
	is(t, "Write", d.Write(0, strings.Repeat("a", 63)), api.ErrArg)
	is(t, "Start", d.Start(), api.ErrBusy)
}

// TestR5TwoDisks: two disks share nothing.
func TestR5TwoDisks(t *testing.T) {
	d, other := made(t, 2), made(t, 2)
	ok(t, "Write", d.Write(0, full("a")))
	ok(t, "Cut", d.Cut(0, 0))
	counts(t, other, true, 0, 0)
	reads(t, other, full(nought), full(nought))
	ok(t, "Write", other.Write(0, full("b")))
	is(t, "Write", d.Write(1, full("a")), api.ErrDown)
	counts(t, other, true, 1, 1)
	reads(t, other, full("b"))
}
