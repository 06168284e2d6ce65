package journal_test

import (
	"math"
	"strings"
	"testing"

	"phratry/api"
	"phratry/disk"
	"phratry/journal"
)

const nought = "\x00"

var wild = []int{math.MinInt, math.MinInt + 1, math.MinInt32, -65, -64, -2, -1, math.MaxInt32, math.MaxInt - 1, math.MaxInt}

// letters is a text of so many bytes in which no two sectors are the same.
func letters(n int) string {
	var b strings.Builder
	for i := range n {
		b.WriteByte(byte(1 + (i+i/64)%255))
	}
	return b.String()
}

// sector is a text with noughts behind.
func sector(s string) string { return s + strings.Repeat(nought, 64-len(s)) }

// head is written out by the chapter: the byte 74, eight bytes, four bytes, noughts.
func head(number, length uint64) string {
	b := []byte{74}
	for i := 56; i >= 0; i -= 8 {
		b = append(b, byte(number>>i))
	}
	for i := 24; i >= 0; i -= 8 {
		b = append(b, byte(length>>i))
	}
	return sector(string(b))
}

func made(t *testing.T, sectors int) *disk.Disk {
	t.Helper()
	d, e := disk.New(sectors)
	if d == nil || e != api.OK {
		t.Fatalf("New(%d): %v, %v", sectors, d, e)
	}
	return d
}

func opened(t *testing.T, d *disk.Disk) *journal.Journal {
	t.Helper()
	j, e := journal.Open(d)
	if j == nil || e != api.OK {
		t.Fatalf("Open: %v, %v", j, e)
	}
	return j
}

func is(t *testing.T, what string, got, want api.Errno) {
	t.Helper()
	if got != want {
		t.Errorf("%s: %v, not %v", what, got, want)
	}
}

func ok(t *testing.T, what string, e api.Errno) {
	t.Helper()
	is(t, what, e, api.OK)
}

// has asks for all that a journal tells.
func has(t *testing.T, j *journal.Journal, text string, seq, room int) {
	t.Helper()
	if s, e := j.Get(); s != text || e != api.OK || j.Seq() != seq || j.Room() != room {
		t.Errorf("Get %.80q, %v, Seq %d, Room %d, not %.80q, %d, %d", s, e, j.Seq(), j.Room(), text, seq, room)
	}
}

// refuses asks a journal that has gone down.
func refuses(t *testing.T, j *journal.Journal, seq, room int) {
	t.Helper()
	if s, e := j.Get(); s != "" || e != api.ErrDown || j.Seq() != seq || j.Room() != room {
		t.Errorf("Get %.80q, %v, Seq %d, Room %d, not ErrDown, %d, %d", s, e, j.Seq(), j.Room(), seq, room)
	}
}

func open(t *testing.T, d *disk.Disk, want api.Errno) {
	t.Helper()
	if j, e := journal.Open(d); j != nil || e != want {
		t.Errorf("Open: %v, %v, not %v", j, e, want)
	}
}

func write(t *testing.T, d *disk.Disk, from int, l ...string) {
	t.Helper()
	for i, s := range l {
		ok(t, "Write", d.Write(from+i, s))
	}
}

// looks asks a disk for its sectors, from the first one on.
func looks(t *testing.T, d *disk.Disk, want ...string) {
	t.Helper()
	for at, w := range want {
		if s, e := d.Read(at); s != w || e != api.OK {
			t.Errorf("the sector %d has %q, %v, not %q", at, s, e, w)
		}
	}
}

func TestP61OpenNew(t *testing.T) {
	for sectors, room := range map[int]int{4: 64, 5: 64, 6: 128, 7: 128, 8: 192, 100: 49 * 64, 4095: 2046 * 64, 4096: 2047 * 64} {
		d := made(t, sectors)
		has(t, opened(t, d), "", 0, room)
		if d.Count() != 0 || d.Unsynced() != 0 {
			t.Errorf("Open of %d sectors has written", sectors)
		}
	}
}

func TestP61OpenRefuses(t *testing.T) {
	open(t, nil, api.ErrNil)
	open(t, &disk.Disk{}, api.ErrNil)
	for sectors := 1; sectors < 4; sectors++ {
		d := made(t, sectors)
		open(t, d, api.ErrArg)
		write(t, d, 0, strings.Repeat("a", 64))
		open(t, d, api.ErrArg)
		ok(t, "Crash", d.Crash(1))
		open(t, d, api.ErrDown)
		ok(t, "Start", d.Start())
		open(t, d, api.ErrArg)
	}
	d := made(t, 6)
	write(t, d, 0, strings.Repeat("a", 64))
	open(t, d, api.ErrBroken)
	ok(t, "Crash", d.Crash(1))
	open(t, d, api.ErrDown)
	ok(t, "Start", d.Start())
	open(t, d, api.ErrBroken)
	if d.Count() != 1 {
		t.Errorf("Open has written: Count %d", d.Count())
	}
}

// TestP61Heads: which two heads are a journal's, on a disk of six sectors (a room of 128).
func TestP61Heads(t *testing.T) {
	none := sector("")
	const top = math.MaxInt64
	for i, r := range []struct {
		first, second string
		seq, length   int // seq -1: ErrBroken
		half          int
	}{
		{none, none, 0, 0, 0},
		{head(1, 0), none, 1, 0, 0},
		{head(1, 3), none, 1, 3, 0},
		{head(1, 128), none, 1, 128, 0},
		{head(1, 129), none, -1, 0, 0},
		{head(1, 1<<24), none, -1, 0, 0},
		{head(1, 1<<31), none, -1, 0, 0},
		{head(1, 1<<32-1), none, -1, 0, 0},
		{none, head(1, 1), -1, 0, 0},
		{none, head(2, 1), -1, 0, 0},
		{head(2, 1), none, -1, 0, 0},
		{head(3, 1), none, -1, 0, 0},
		{head(0, 0), none, -1, 0, 0},
		{none, head(0, 0), -1, 0, 0},
		{head(0, 0), head(0, 0), -1, 0, 0},
		{head(1, 1), head(0, 0), -1, 0, 0},
		{head(0, 0), head(1, 1), -1, 0, 0},
		{head(1, 1), head(2, 65), 2, 65, 1},
		{head(3, 64), head(2, 2), 3, 64, 0},
		{head(3, 1), head(4, 128), 4, 128, 1},
		{head(3, 1), head(4, 129), -1, 0, 0},
		{head(3, 129), head(4, 1), -1, 0, 0},
		{head(2, 1), head(1, 1), -1, 0, 0},
		{head(2, 1), head(3, 1), -1, 0, 0},
		{head(4, 1), head(3, 1), -1, 0, 0},
		{head(1, 1), head(1, 1), -1, 0, 0},
		{head(2, 1), head(2, 1), -1, 0, 0},
		{head(1, 1), head(4, 1), -1, 0, 0},
		{head(5, 1), head(2, 1), -1, 0, 0},
		{head(1, 1), head(3, 1), -1, 0, 0},
		{head(257, 1), head(256, 2), 257, 1, 0},
		{head(257, 1), head(258, 2), 258, 2, 1},
		{head(257, 1), head(2, 2), -1, 0, 0},
		{head(1<<32+1, 1), head(1<<32, 2), 1<<32 + 1, 1, 0},
		{head(1<<32+1, 1), head(2, 2), -1, 0, 0},
		{head(1<<56+1, 1), none, -1, 0, 0},
		{head(1<<56+1, 1), head(1<<56+2, 7), 1<<56 + 2, 7, 1},
		{head(top, 9), head(top-1, 7), top, 9, 0},
		{head(top-2, 9), head(top-1, 7), top - 1, 7, 1},
		{head(1<<63+1, 9), head(1<<63, 7), -1, 0, 0},
		{head(top, 9), head(1<<63, 7), -1, 0, 0},
		{head(1<<64-1, 9), none, -1, 0, 0},
		{head(1<<64-1, 9), head(1<<64-2, 7), -1, 0, 0},
	} {
		d := made(t, 6)
		text := letters(256)
		write(t, d, 0, r.first, r.second, text[:64], text[64:128], text[128:192], text[192:])
		if r.seq < 0 {
			open(t, d, api.ErrBroken)
		} else {
			from := 128 * r.half
			has(t, opened(t, d), text[from:from+r.length], r.seq, 128)
		}
		if d.Count() != 6 || d.Unsynced() != 6 || t.Failed() {
			t.Fatalf("row %d; Count %d", i, d.Count())
		}
	}
}

// TestP61EveryByteOfAHead: a head with another byte anywhere is another head, or none.
func TestP61EveryByteOfAHead(t *testing.T) {
	for half := range 2 {
		for at := range 64 {
			for _, b := range []byte{0, 1, 2, 3, 4, 5, 6, 64, 65, 73, 74, 75, 127, 128, 255} {
				heads := []string{head(3, 5), head(4, 6)}
				changed := []byte(heads[half])
				same := changed[at] == b
				changed[at] = b
				heads[half] = string(changed)
				d := made(t, 4)
				write(t, d, 0, heads...)
				j, e := journal.Open(d)
				apart := at == 8 && (half == 0 && b == 5 || half == 1 && b == 2) // the number beside the other head's on its other side
				may := same || at == 12 && b <= 64 || apart
				if may && e != api.OK || !may && (j != nil || e != api.ErrBroken) {
					t.Fatalf("half %d, byte %d, %d: %v", half, at, b, e)
				}
			}
		}
	}
	for at := range 64 {
		for half := range 2 {
			d := made(t, 4)
			b := make([]byte, 64)
			b[at] = 1
			write(t, d, half, string(b))
			open(t, d, api.ErrBroken)
		}
	}
}

// TestP61BytesBehind: what stands in the halves beside the text does not matter.
func TestP61BytesBehind(t *testing.T) {
	d := made(t, 7)
	full := strings.Repeat("x", 64)
	write(t, d, 2, full, full, full, full, full)
	has(t, opened(t, d), "", 0, 128)
	write(t, d, 0, head(1, 70))
	has(t, opened(t, d), strings.Repeat("x", 70), 1, 128)
	write(t, d, 1, head(2, 0))
	has(t, opened(t, d), "", 2, 128)
}

func TestP62GetSeqRoom(t *testing.T) {
	d := made(t, 8)
	j := opened(t, d)
	has(t, j, "", 0, 192)
	for i, s := range []string{"one", "", letters(192), "two", "two", nought, letters(64), strings.Repeat(nought, 65), "\xff\xfe", ""} {
		ok(t, "Put", j.Put(s))
		has(t, j, s, i+1, 192)
		has(t, j, s, i+1, 192)
		has(t, opened(t, d), s, i+1, 192)
	}
}

// TestP62DownAndUp: a journal that did not put while its disk was down goes on behind that.
func TestP62DownAndUp(t *testing.T) {
	d := made(t, 6)
	j := opened(t, d)
	ok(t, "Put", j.Put("one"))
	ok(t, "Crash", d.Crash(0))
	refuses(t, j, 1, 128)
	ok(t, "Start", d.Start())
	has(t, j, "one", 1, 128)
	ok(t, "Put", j.Put("two"))
	has(t, j, "two", 2, 128)
	has(t, opened(t, d), "two", 2, 128)
}

// TestP62PutWhileDown: behind a Put that has answered ErrDown each call does, also when the disk is up.
func TestP62PutWhileDown(t *testing.T) {
	for _, s := range []string{"", "two", letters(128), letters(129)} {
		d := made(t, 6)
		j := opened(t, d)
		ok(t, "Put", j.Put("one"))
		ok(t, "Crash", d.Crash(0))
		is(t, "Put", j.Put(s), api.ErrDown)
		refuses(t, j, 1, 128)
		ok(t, "Start", d.Start())
		count := d.Count()
		for range 2 {
			refuses(t, j, 1, 128)
			is(t, "Put", j.Put("two"), api.ErrDown)
			is(t, "Put of too much", j.Put(letters(129)), api.ErrDown)
		}
		if d.Count() != count {
			t.Error("a Put that was refused has written")
		}
		has(t, opened(t, d), "one", 1, 128)
	}
}

// TestP62ItsOwnText: what was put or was there is told, whatever others write on the disk.
func TestP62ItsOwnText(t *testing.T) {
	d := made(t, 4)
	j := opened(t, d)
	write(t, d, 0, head(1, 2), sector(""), sector("zz"))
	has(t, j, "", 0, 64)
	ok(t, "Put", j.Put("one"))
	write(t, d, 2, sector("yyy"))
	has(t, j, "one", 1, 64)
	has(t, opened(t, d), "yyy", 1, 64)
}

func TestP63Bytes(t *testing.T) {
	d := made(t, 7)
	j := opened(t, d)
	none := sector("")
	ok(t, "Put", j.Put("one"))
	looks(t, d, head(1, 3), none, sector("one"), none, none, none, none)
	text := letters(128)
	ok(t, "Put", j.Put(text))
	looks(t, d, head(1, 3), head(2, 128), sector("one"), none, text[:64], text[64:], none)
	ok(t, "Put", j.Put(text[:65]))
	looks(t, d, head(3, 65), head(2, 128), text[:64], sector(text[64:65]), text[:64], text[64:], none)
	ok(t, "Put", j.Put("ab"))
	looks(t, d, head(3, 65), head(4, 2), text[:64], sector(text[64:65]), sector("ab"), text[64:], none)
	ok(t, "Put", j.Put(""))
	looks(t, d, head(5, 0), head(4, 2), text[:64], sector(text[64:65]), sector("ab"), text[64:], none)
	if d.Unsynced() != 0 {
		t.Errorf("Unsynced %d", d.Unsynced())
	}
}

// TestP63Numbers: all eight bytes of a number are carried, and all of a length that there may be.
func TestP63Numbers(t *testing.T) {
	for _, n := range []uint64{255, 256, 1<<16 - 1, 1 << 24, 1<<32 - 1, 1 << 40, 1<<48 - 1, 1 << 56, 1<<62 - 1, 1<<63 - 2} {
		d := made(t, 4)
		heads := []string{head(n-1, 1), head(n, 1)}
		if n%2 == 1 {
			heads[0], heads[1] = heads[1], heads[0]
		}
		write(t, d, 0, heads...)
		j := opened(t, d)
		ok(t, "Put", j.Put("next"))
		has(t, j, "next", int(n+1), 64)
		has(t, opened(t, d), "next", int(n+1), 64)
		if s, _ := d.Read(int(n % 2)); s != head(n+1, 4) {
			t.Errorf("%d: %q", n, s)
		}
	}
	d := made(t, 4096)
	j := opened(t, d)
	text := letters(2047 * 64)
	ok(t, "Put", j.Put(text))
	if s, _ := d.Read(0); s != head(1, 2047*64) {
		t.Errorf("%q", s)
	}
	has(t, j, text, 1, 2047*64)
	has(t, opened(t, d), text, 1, 2047*64)
	is(t, "Put", j.Put(text+"x"), api.ErrFull)
	ok(t, "Put", j.Put(text[1:]))
	has(t, opened(t, d), text[1:], 2, 2047*64)
}

// TestP63TheLastNumber: behind the greatest number there is no room for another text.
func TestP63TheLastNumber(t *testing.T) {
	d := made(t, 4)
	write(t, d, 0, head(math.MaxInt64, 2), head(math.MaxInt64-1, 1), sector("ab"))
	j := opened(t, d)
	is(t, "Put", j.Put(""), api.ErrFull)
	has(t, j, "ab", math.MaxInt, 64)
	has(t, opened(t, d), "ab", math.MaxInt, 64)
	if d.Count() != 3 {
		t.Errorf("Count %d", d.Count())
	}
}

func TestP63Full(t *testing.T) {
	for sectors := 4; sectors < 12; sectors++ {
		d := made(t, sectors)
		j := opened(t, d)
		room := (sectors - 2) / 2 * 64
		ok(t, "Put", j.Put("one"))
		count := d.Count()
		for _, n := range []int{room + 1, room + 64, 65537, 200000} {
			is(t, "Put", j.Put(letters(n)), api.ErrFull)
		}
		has(t, j, "one", 1, room)
		if d.Count() != count || d.Unsynced() != 0 {
			t.Error("a Put that was refused has written")
		}
		for i, n := range []int{room, room, room - 1, 0, 1} {
			ok(t, "Put", j.Put(letters(n)))
			has(t, j, letters(n), i+2, room)
			has(t, opened(t, d), letters(n), i+2, room)
		}
	}
}

// TestP63Order: cut behind each write and sync, with what was written surviving, the disk shows how far it came.
func TestP63Order(t *testing.T) {
	const all = 0x1555555555555555
	old, text := letters(150), "new"+letters(180)
	for n := 0; n <= 6; n++ {
		d := made(t, 8)
		j := opened(t, d)
		ok(t, "Put", j.Put(old))
		ok(t, "Cut", d.Cut(n, all))
		want := []string{head(1, 150), sector(""), old[:64], old[64:128], sector(old[128:]), sector(""), sector(""), sector("")}
		e := j.Put(text)
		for i := range min(n, 3) {
			want[5+i] = sector(text[64*i : min(64*i+64, 183)])
		}
		if n >= 5 { // the sync of the bytes, then the head
			want[1] = head(2, 183)
		}
		if n == 6 {
			ok(t, "Put", e)
		} else {
			is(t, "Put", e, api.ErrDown)
			ok(t, "Start", d.Start())
		}
		looks(t, d, want...)
		if d.Count() != 6+n {
			t.Errorf("%d: Count %d", n, d.Count())
		}
	}
}

// TestP63Synced: with what is not synced lost, each sync shows that it was there.
func TestP63Synced(t *testing.T) {
	for n := 0; n <= 5; n++ {
		d := made(t, 6)
		j := opened(t, d)
		ok(t, "Cut", d.Cut(n, 0))
		e := j.Put(letters(128))
		want := []string{sector(""), sector(""), sector(""), sector(""), sector(""), sector("")}
		if n >= 3 {
			want[2], want[3] = letters(128)[:64], letters(128)[64:]
		}
		if n == 5 {
			want[0] = head(1, 128)
			ok(t, "Put", e)
			ok(t, "Crash", d.Crash(0))
		} else {
			is(t, "Put", e, api.ErrDown)
		}
		ok(t, "Start", d.Start())
		looks(t, d, want...)
	}
}

func TestP63Cost(t *testing.T) {
	for n, want := range map[int]int{
		0: 3, 1: 4, 63: 4, 64: 4, 65: 5, 127: 5, 128: 5, 129: 6, 65536: 1027, 65537: 1028, 131008: 2050, 1 << 32: 1<<26 + 3,
		math.MaxInt: 1<<57 + 3, math.MaxInt - 62: 1<<57 + 3, math.MaxInt - 63: 1<<57 + 2,
	} {
		if c, e := journal.Cost(n); c != want || e != api.OK {
			t.Errorf("Cost(%d) = %d, %v, not %d", n, c, e, want)
		}
	}
	for _, n := range wild {
		if n < 0 {
			if c, e := journal.Cost(n); c != 0 || e != api.ErrArg {
				t.Errorf("Cost(%d) = %d, %v", n, c, e)
			}
		}
	}
}

func TestP63CostOfAPut(t *testing.T) {
	d := made(t, 20)
	j := opened(t, d)
	for n := range j.Room() + 1 {
		count := d.Count()
		ok(t, "Put", j.Put(letters(n)))
		if c, e := journal.Cost(n); c != d.Count()-count || e != api.OK {
			t.Fatalf("Cost(%d) = %d, %v, and it took %d", n, c, e, d.Count()-count)
		}
	}
}

// TestP64EveryFall: every place at which a Put can be cut, and every fate of each write.
func TestP64EveryFall(t *testing.T) {
	for _, before := range [][]string{{}, {""}, {"old"}, {letters(100)}, {"old", letters(128)}, {letters(128), ""}, {"a", "b", letters(65)}, {letters(70), letters(128), "c", "d"}} {
		for _, text := range []string{"", "n", letters(64)[1:], letters(65)[1:], letters(65), letters(129)[1:]} {
			cost, _ := journal.Cost(len(text))
			for n := range cost {
				for bits := range int64(16) {
					fall(t, before, text, n, bits, cost)
				}
				fall(t, before, text, n, -1, cost)
				fall(t, before, text, n, math.MinInt64, cost)
				fall(t, before, text, n, math.MaxInt64, cost)
			}
		}
	}
}

func fall(t *testing.T, before []string, text string, n int, bits int64, cost int) {
	t.Helper()
	d := made(t, 6)
	j := opened(t, d)
	want, seq := "", 0
	for _, s := range before {
		ok(t, "Put", j.Put(s))
		want, seq = s, seq+1
	}
	ok(t, "Cut", d.Cut(n, bits))
	is(t, "Put", j.Put(text), api.ErrDown)
	refuses(t, j, seq, 128)
	open(t, d, api.ErrDown)
	ok(t, "Start", d.Start())
	refuses(t, j, seq, 128)
	is(t, "Put", j.Put("more"), api.ErrDown)
	if fate := bits & 3; n == cost-1 && (fate == 1 || fate == 2) { // the head alone is not synced, and its first half survives
		want, seq = text, seq+1
	}
	for range 2 {
		has(t, opened(t, d), want, seq, 128)
	}
	ok(t, "Crash", d.Crash(0))
	ok(t, "Start", d.Start())
	k := opened(t, d)
	has(t, k, want, seq, 128)
	ok(t, "Put", k.Put("next"))
	has(t, opened(t, d), "next", seq+1, 128)
	refuses(t, j, len(before), 128)
	if t.Failed() {
		t.Fatalf("%d texts before, %d bytes, cut %d, bits %d", len(before), len(text), n, bits)
	}
}

func TestP64DoneStays(t *testing.T) {
	for _, bits := range []int64{0, 1, 2, 3, -1, math.MinInt64, math.MaxInt64} {
		d := made(t, 6)
		j := opened(t, d)
		for i, s := range []string{letters(128), "two", "", letters(65)} {
			cost, _ := journal.Cost(len(s))
			ok(t, "Cut", d.Cut(cost, bits))
			ok(t, "Put", j.Put(s))
			is(t, "Sync", d.Sync(), api.ErrDown)
			ok(t, "Start", d.Start())
			has(t, j, s, i+1, 128)
			has(t, opened(t, d), s, i+1, 128)
		}
	}
}

func TestP65NotThere(t *testing.T) {
	for _, j := range []*journal.Journal{nil, {}, new(journal.Journal)} {
		for _, s := range []string{"", "a", letters(200000)} {
			is(t, "Put", j.Put(s), api.ErrNil)
			if s, e := j.Get(); s != "" || e != api.ErrNil {
				t.Errorf("Get: %q, %v", s, e)
			}
			if j.Seq() != 0 || j.Room() != 0 {
				t.Errorf("Seq %d, Room %d", j.Seq(), j.Room())
			}
		}
	}
}

func TestExamples(t *testing.T) {
	d := made(t, 4)
	j := opened(t, d)
	is(t, "Put", j.Put(letters(65)), api.ErrFull)
	ok(t, "Put", j.Put(letters(64)))
	ok(t, "Put", j.Put(""))
	has(t, j, "", 2, 64)
	open(t, made(t, 3), api.ErrArg)
	text := letters(100)
	for _, r := range []struct {
		n    int
		bits int64
		want string
		seq  int
	}{{1, 0, "", 0}, {4, 1, text, 1}, {4, 0, "", 0}, {4, 2, text, 1}, {4, 3, "", 0}} {
		d := made(t, 6)
		j := opened(t, d)
		ok(t, "Cut", d.Cut(r.n, r.bits))
		is(t, "Put", j.Put(text), api.ErrDown)
		ok(t, "Start", d.Start())
		has(t, opened(t, d), r.want, r.seq, 128)
	}
	d = made(t, 6)
	write(t, d, 0, strings.Repeat("a", 64))
	open(t, d, api.ErrBroken)
}

// TestR5TwoJournals: journals of two disks share nothing.
func TestR5TwoJournals(t *testing.T) {
	d, other := made(t, 4), made(t, 8)
	j, k := opened(t, d), opened(t, other)
	ok(t, "Put", j.Put("one"))
	has(t, k, "", 0, 192)
	ok(t, "Crash", d.Crash(0))
	is(t, "Put", j.Put("two"), api.ErrDown)
	ok(t, "Put", k.Put("three"))
	has(t, k, "three", 1, 192)
}
