package store_test

import (
	"slices"
	"strconv"
	"strings"
	"testing"

	"phratry/api"
	"phratry/disk"
	"phratry/journal"
	"phratry/store"
)

const (
	most    = 65536 // bytes of a name, of a text
	keys    = 256   // names of a store
	survive = 0x1555555555555555
)

func is(t *testing.T, what string, got, want api.Errno) {
	t.Helper()
	if got != want {
		t.Errorf("%s: %v, not %v", what, got, want)
	}
}

func ok(t *testing.T, what string, e api.Errno) {
	t.Helper()
	is(t, what, e, api.OK)
}

func made(t *testing.T, sectors int) *disk.Disk {
	t.Helper()
	d, e := disk.New(sectors)
	if d == nil || e != api.OK {
		t.Fatalf("New(%d): %v, %v", sectors, d, e)
	}
	return d
}

func opened(t *testing.T, d *disk.Disk) *store.Store {
	t.Helper()
	s, e := store.Open(d)
	if s == nil || e != api.OK {
		t.Fatalf("Open: %v, %v", s, e)
	}
	return s
}

func open(t *testing.T, d *disk.Disk, want api.Errno) {
	t.Helper()
	if s, e := store.Open(d); s != nil || e != want {
		t.Errorf("Open: %v, %v, not %v", s, e, want)
	}
}

// put leaves a text on a disk, as a journal does.
func put(t *testing.T, d *disk.Disk, text string) {
	t.Helper()
	j, e := journal.Open(d)
	ok(t, "journal.Open", e)
	ok(t, "journal.Put", j.Put(text))
}

// got is the text that a disk's journal has.
func got(t *testing.T, d *disk.Disk) string {
	t.Helper()
	j, e := journal.Open(d)
	ok(t, "journal.Open", e)
	text, e := j.Get()
	ok(t, "journal.Get", e)
	return text
}

func down(t *testing.T, d *disk.Disk) {
	t.Helper()
	ok(t, "Crash", d.Crash(0))
}

func up(t *testing.T, d *disk.Disk) {
	t.Helper()
	ok(t, "Start", d.Start())
}

// pairs is of names and texts by turns.
func pairs(l ...string) []api.Pair {
	var out []api.Pair
	for i := 0; i < len(l); i += 2 {
		out = append(out, api.Pair{Name: l[i], Text: l[i+1]})
	}
	return out
}

func gone(names ...string) []api.Pair {
	var out []api.Pair
	for _, n := range names {
		out = append(out, api.Pair{Name: n, Gone: true})
	}
	return out
}

// many is so many pairs with names that rise.
func many(n int) []api.Pair {
	var out []api.Pair
	for i := range n {
		out = append(out, api.Pair{Name: string([]byte{byte(i >> 16), byte(i >> 8), byte(i)}), Text: strconv.Itoa(i)})
	}
	return out
}

func x(n int) string { return strings.Repeat("x", n) }

// has asks for all that a store tells; want's names rise.
func has(t *testing.T, s *store.Store, seq int, want []api.Pair) {
	t.Helper()
	var names []string
	for _, p := range want {
		names = append(names, p.Name)
		if text, there := s.Get(p.Name); text != p.Text || !there {
			t.Errorf("Get(%.40q): %.40q, %v, not %.40q", p.Name, text, there, p.Text)
		}
		if n := p.Name + "\x00"; !slices.ContainsFunc(want, func(q api.Pair) bool { return q.Name == n }) {
			hasNot(t, s, n)
		}
	}
	if l := s.Names(); !slices.Equal(l, names) {
		t.Errorf("Names: %.200q, not %.200q", l, names)
	}
	if s.Seq() != seq {
		t.Errorf("Seq %d, not %d", s.Seq(), seq)
	}
}

func hasNot(t *testing.T, s *store.Store, names ...string) {
	t.Helper()
	for _, n := range names {
		if text, there := s.Get(n); text != "" || there {
			t.Errorf("Get(%.40q): %.40q, %v, not none", n, text, there)
		}
	}
}

// number is how the chapter wire writes n, which is not below 0.
func number(n int) string {
	var b []byte
	for z := 2 * n; ; z /= 128 {
		if z < 128 {
			return string(append(b, byte(z)))
		}
		b = append(b, byte(z%128+128))
	}
}

// packed is written out by the chapter: a list's head, and of each its Name and its Text, as texts.
func packed(l []api.Pair) string {
	var b strings.Builder
	b.WriteString(number(len(l)))
	for _, p := range l {
		b.WriteString(number(len(p.Name)) + p.Name + number(len(p.Text)) + p.Text)
	}
	return b.String()
}

func TestP71OpenNew(t *testing.T) {
	for _, sectors := range []int{4, 5, 6, 100, 4096} {
		d := made(t, sectors)
		s := opened(t, d)
		has(t, s, 0, nil)
		hasNot(t, s, "", "a")
		if d.Count() != 0 || d.Unsynced() != 0 {
			t.Errorf("Open of %d sectors has written", sectors)
		}
	}
}

func TestP71JournalsError(t *testing.T) {
	open(t, nil, api.ErrNil)
	open(t, &disk.Disk{}, api.ErrNil)
	for sectors := 1; sectors < 4; sectors++ {
		d := made(t, sectors)
		open(t, d, api.ErrArg)
		down(t, d)
		open(t, d, api.ErrDown)
	}
	d := made(t, 6)
	ok(t, "Write", d.Write(0, strings.Repeat("a", 64)))
	open(t, d, api.ErrBroken)
	ok(t, "Crash", d.Crash(1))
	open(t, d, api.ErrDown)
	up(t, d)
	open(t, d, api.ErrBroken)
}

// TestP71Texts: a text that was put must be a packed one; the empty text, too, if it was put.
func TestP71Texts(t *testing.T) {
	for i, r := range []struct {
		text string
		l    []api.Pair
		e    api.Errno
	}{
		{"\x00", nil, api.OK},
		{"\x02\x02a\x04xy", pairs("a", "xy"), api.OK},
		{"\x04\x00\x00\x02a\x00", pairs("", "", "a", ""), api.OK},
		{"", nil, api.ErrBroken},
		{"\x00\x00", nil, api.ErrBroken},
		{"\x02\x02a", nil, api.ErrBroken},
		{"\x04\x02b\x00\x02a\x00", nil, api.ErrBroken},
		{"\x04\x02a\x00\x02a\x00", nil, api.ErrBroken},
		{"some text", nil, api.ErrBroken},
	} {
		d := made(t, 8)
		for seq := 1; seq < 4; seq++ {
			put(t, d, r.text)
			count := d.Count()
			if r.e != api.OK {
				open(t, d, r.e)
			} else {
				has(t, opened(t, d), seq, r.l)
			}
			if d.Count() != count {
				t.Errorf("row %d: Open has written", i)
			}
		}
		down(t, d)
		open(t, d, api.ErrDown)
	}
}

func TestP72GetNamesSeq(t *testing.T) {
	d := made(t, 200)
	s := opened(t, d)
	ok(t, "Change", s.Change(pairs("b", "1", "a", "2")))
	has(t, s, 1, pairs("a", "2", "b", "1"))
	hasNot(t, s, "", "A", "c", "ab")
	ok(t, "Change", s.Change(pairs("", "none", "B", "", "\xff", "high", "\x00", "\x00", "ab", "x", "é", "y", "a\x00", "z")))
	want := pairs("", "none", "\x00", "\x00", "B", "", "a", "2", "a\x00", "z", "ab", "x", "b", "1", "é", "y", "\xff", "high")
	has(t, s, 2, want)
	has(t, s, 2, want)
	has(t, opened(t, d), 2, want)
}

// TestP72NewMemory: who changes an answer changes nothing else. (R4)
func TestP72NewMemory(t *testing.T) {
	s := opened(t, made(t, 20))
	ok(t, "Change", s.Change(pairs("a", "1", "b", "2")))
	first, second := s.Names(), s.Names()
	first[0] = "z"
	first = append(first[:1], "y", "x")
	if !slices.Equal(second, []string{"a", "b"}) {
		t.Errorf("%q", second)
	}
	has(t, s, 1, pairs("a", "1", "b", "2"))
	l := pairs("c", "3", "d", "4")
	room := append(l, api.Pair{Name: "spare"})[:2]
	ok(t, "Change", s.Change(room))
	if !slices.Equal(room[:3], append(pairs("c", "3", "d", "4"), api.Pair{Name: "spare"})) {
		t.Errorf("what was handed in has become %v", room[:3])
	}
	room[0] = api.Pair{Name: "q", Gone: true}
	has(t, s, 2, pairs("a", "1", "b", "2", "c", "3", "d", "4"))
	text, _ := store.Pack(l[1:])
	one, _ := store.Unpack(text)
	two, _ := store.Unpack(text)
	one[0].Text = "5"
	if two[0].Text != "4" {
		t.Errorf("%v", two)
	}
}

// TestP72Apart: two stores share nothing but their disk. (R5)
func TestP72Apart(t *testing.T) {
	d := made(t, 20)
	s, o := opened(t, d), opened(t, d)
	ok(t, "Change", s.Change(pairs("a", "1")))
	has(t, o, 0, nil)
	has(t, opened(t, d), 1, pairs("a", "1"))
	p, q := opened(t, made(t, 20)), opened(t, made(t, 20))
	ok(t, "Change", p.Change(pairs("a", "1")))
	has(t, q, 0, nil)
}

// TestP73Examples: the rows of the chapter.
func TestP73Examples(t *testing.T) {
	d := made(t, 20)
	s := opened(t, d)
	ok(t, "Change", s.Change(pairs("b", "1", "a", "2")))
	ok(t, "Change", s.Change(gone("b")))
	has(t, s, 2, pairs("a", "2"))
	hasNot(t, s, "b")
	is(t, "Change", s.Change(pairs("a", "1", "a", "2")), api.ErrTwice)
	is(t, "Change", s.Change([]api.Pair{{Name: "a", Text: "x", Gone: true}}), api.ErrArg)
	has(t, s, 2, pairs("a", "2"))
	ok(t, "Change", s.Change(gone("c")))
	has(t, s, 3, pairs("a", "2"))
}

// TestP73Changes: each Change, also one of nothing, is one more; what it does not name stays.
func TestP73Changes(t *testing.T) {
	d := made(t, 40)
	s := opened(t, d)
	for i, r := range []struct{ l, want []api.Pair }{
		{nil, nil},
		{[]api.Pair{}, nil},
		{pairs("m", "1"), pairs("m", "1")},
		{pairs("m", "2", "z", "3", "a", "4"), pairs("a", "4", "m", "2", "z", "3")},
		{append(gone("m"), pairs("b", "")...), pairs("a", "4", "b", "", "z", "3")},
		{append(pairs("b", "5"), gone("z", "y")...), pairs("a", "4", "b", "5")},
		{pairs("b", "5"), pairs("a", "4", "b", "5")},
		{nil, pairs("a", "4", "b", "5")},
		{append(gone(""), pairs("m", "6", "a", "")...), pairs("a", "", "b", "5", "m", "6")},
		{pairs("", "empty"), pairs("", "empty", "a", "", "b", "5", "m", "6")},
		{gone("b", "", "m", "a"), nil},
		{gone("b", "", "m", "a"), nil},
	} {
		ok(t, "Change", s.Change(r.l))
		has(t, s, i+1, r.want)
		has(t, opened(t, d), i+1, r.want)
		if text := got(t, d); text != packed(r.want) {
			t.Errorf("row %d: the journal has %q, not %q", i, text, packed(r.want))
		}
		if d.Unsynced() != 0 || t.Failed() {
			t.Fatalf("row %d", i)
		}
	}
}

// TestP73Order: of several errors the first pair's is answered, and of one pair the first that the chapter names.
func TestP73Order(t *testing.T) {
	long, full := x(most+1), pairs("full", x(most))
	over, late := many(keys+1), api.Pair{Name: "a", Text: "x", Gone: true}
	d := made(t, 40)
	s := opened(t, d)
	before := pairs("a", "1", "b", "2")
	ok(t, "Change", s.Change(before))
	rows := []struct {
		l []api.Pair
		e api.Errno
	}{
		{pairs(long, ""), api.ErrLimit},
		{pairs("c", long), api.ErrLimit},
		{gone(long), api.ErrLimit},
		{[]api.Pair{{Name: "a", Text: long, Gone: true}}, api.ErrLimit},
		{[]api.Pair{{Name: long, Text: "x", Gone: true}}, api.ErrLimit},
		{[]api.Pair{late}, api.ErrArg},
		{[]api.Pair{{Name: "a"}, late}, api.ErrArg},
		{[]api.Pair{{Name: "new", Text: "x", Gone: true}}, api.ErrArg},
		{pairs("c", "1", "c", "1"), api.ErrTwice},
		{gone("c", "d", "c"), api.ErrTwice},
		{append(pairs("a", "1"), gone("a")...), api.ErrTwice},
		{append(gone("a"), pairs("a", "1")...), api.ErrTwice},
		{pairs("", "1", "", "2"), api.ErrTwice},
		{pairs(long, "", long, ""), api.ErrLimit},
		{append([]api.Pair{late}, pairs("c", long)...), api.ErrArg},
		{append(pairs("c", long), late), api.ErrLimit},
		{append(pairs("c", "1", "c", "2"), late), api.ErrTwice},
		{append(pairs("c", "1", "c", "2"), pairs(long, "")...), api.ErrTwice},
		{append([]api.Pair{late}, pairs("c", "1", "c", "2")...), api.ErrArg},
		{append(pairs("c", "1", "c", long), late), api.ErrLimit},
		{append(slices.Clone(over), late), api.ErrArg},
		{append(slices.Clone(over), over[3]), api.ErrTwice},
		{over, api.ErrLimit},
		{append(slices.Clone(over), full...), api.ErrLimit},
		{append(slices.Clone(full), late), api.ErrArg},
	}
	refused := func(down bool) {
		t.Helper()
		count := d.Count()
		for i, r := range rows {
			if e := s.Change(r.l); e != r.e {
				t.Errorf("row %d: %v, not %v", i, e, r.e)
			}
			has(t, s, 1, before)
		}
		if d.Count() != count || d.Up() == down {
			t.Error("a Change that was refused has written")
		}
	}
	refused(false)
	is(t, "Change", s.Change(full), api.ErrFull)
	has(t, s, 1, before)
	has(t, opened(t, d), 1, before)
	down(t, d)
	refused(true)
	is(t, "Change", s.Change(full), api.ErrDown)
	refused(true)
	up(t, d)
	refused(false)
	is(t, "Change", s.Change(full), api.ErrDown)
}

// TestP73Long: names and texts of just MaxBytes bytes.
func TestP73Long(t *testing.T) {
	d := made(t, api.MaxSectors)
	s := opened(t, d)
	ok(t, "Change", s.Change(pairs("a", x(most))))
	has(t, s, 1, pairs("a", x(most)))
	ok(t, "Change", s.Change(append(pairs(x(most), ""), gone("a", x(most-1))...)))
	has(t, s, 2, pairs(x(most), ""))
	is(t, "Change", s.Change(pairs(x(most+1), "")), api.ErrLimit)
	is(t, "Change", s.Change(pairs("a", x(most+1))), api.ErrLimit)
	is(t, "Change", s.Change(gone(x(most+1))), api.ErrLimit)
	has(t, opened(t, d), 2, pairs(x(most), ""))
	ok(t, "Change", s.Change(gone(x(most))))
	has(t, opened(t, d), 3, nil)
}

// TestP73Keys: it matters how many names there would be, not how many pairs there are.
func TestP73Keys(t *testing.T) {
	d := made(t, 400)
	s := opened(t, d)
	all := many(keys + 3)
	is(t, "Change", s.Change(all[:keys+1]), api.ErrLimit)
	has(t, s, 0, nil)
	ok(t, "Change", s.Change(all[:keys]))
	has(t, s, 1, all[:keys])
	is(t, "Change", s.Change(all[keys:keys+1]), api.ErrLimit)
	ok(t, "Change of the same names", s.Change(all[:keys]))
	ok(t, "one comes, one goes", s.Change(append(slices.Clone(all[keys:keys+1]), gone(all[0].Name)...)))
	has(t, s, 3, all[1:keys+1])
	is(t, "two come, one goes", s.Change(append(slices.Clone(all[keys+1:]), gone(all[1].Name)...)), api.ErrLimit)
	is(t, "one comes, one goes that is not there", s.Change(append(slices.Clone(all[:1]), gone("q")...)), api.ErrLimit)
	has(t, s, 3, all[1:keys+1])
	var away []api.Pair
	for _, p := range many(5000) {
		away = append(away, api.Pair{Name: p.Name, Gone: true})
	}
	ok(t, "Change of many that go", s.Change(away))
	has(t, s, 4, nil)
	has(t, opened(t, d), 4, nil)
}

// TestP73Full: the packed text may have as many bytes as the journal's Room.
func TestP73Full(t *testing.T) {
	for _, sectors := range []int{4, 5, 6, 7, 50, 1000, 4096} {
		d := made(t, sectors)
		room := (sectors - 2) / 2 * 64
		s := opened(t, d)
		ok(t, "Change", s.Change(pairs("b", "1")))
		has(t, s, 1, pairs("b", "1"))
		count := d.Count()
		fit := filling(room - len(packed(pairs("b", "1"))))
		want := append(slices.Clone(fit), pairs("b", "1")...)
		if len(packed(want)) != room {
			t.Fatalf("the test fills %d bytes of %d", len(packed(want)), room)
		}
		is(t, "Change of one byte more", s.Change(append(pairs("b", "12"), fit...)), api.ErrFull)
		is(t, "Change of one more pair", s.Change(append(pairs("c", ""), fit...)), api.ErrFull)
		has(t, s, 1, pairs("b", "1"))
		if d.Count() != count {
			t.Error("a Change that was refused has written")
		}
		ok(t, "Change", s.Change(fit))
		has(t, s, 2, want)
		has(t, opened(t, d), 2, want)
		is(t, "Change", s.Change(pairs("c", "")), api.ErrFull)
		ok(t, "Change", s.Change(append(pairs("c", ""), gone("b")...)))
		has(t, opened(t, d), 3, append(slices.Clone(fit), pairs("c", "")...))
	}
}

// filling is pairs with names ahead of b whose packed bytes, without a head, are so many.
func filling(n int) []api.Pair {
	var l []api.Pair
	for i := 0; n > 0; i++ {
		size := min(n, 4000)
		if n > size && n < size+10 {
			size -= 20
		}
		p := api.Pair{Name: "a" + string(rune('A'+i))}
		for len(packed([]api.Pair{p}))-1 < size {
			p.Text += "x"
		}
		n -= len(packed([]api.Pair{p})) - 1
		l = append(l, p)
	}
	return l
}

// TestP73Cut: behind a Change that went down, Get and Names answer as before, and each Change ErrDown, also when the disk is up.
func TestP73Cut(t *testing.T) {
	for n := range 4 {
		for _, bits := range []int64{0, 1, 2, 3, survive} {
			d := made(t, 20)
			s := opened(t, d)
			before := pairs("a", "1", "b", "2")
			ok(t, "Change", s.Change(before))
			ok(t, "Cut", d.Cut(n, bits))
			is(t, "Change", s.Change(append(pairs("c", "3"), gone("a")...)), api.ErrDown)
			staysDown(t, d, s, before)
			up(t, d)
			staysDown(t, d, s, before)
		}
	}
}

func staysDown(t *testing.T, d *disk.Disk, s *store.Store, before []api.Pair) {
	t.Helper()
	count := d.Count()
	for _, l := range [][]api.Pair{nil, pairs("q", "1"), gone("a"), before, pairs("full", x(most))} {
		is(t, "Change", s.Change(l), api.ErrDown)
		has(t, s, 1, before)
		hasNot(t, s, "c", "q", "full")
	}
	if d.Count() != count {
		t.Error("a Change that was refused has written")
	}
}

// TestP73Down: Get and Names answer of a disk that is down; a Change that found it so is behind an ErrDown.
func TestP73Down(t *testing.T) {
	before := pairs("a", "1", "b", "2")
	for _, l := range [][]api.Pair{nil, pairs("c", "3"), gone("a"), pairs("full", x(most))} {
		d := made(t, 20)
		s := opened(t, d)
		ok(t, "Change", s.Change(before))
		down(t, d)
		has(t, s, 1, before)
		is(t, "Change", s.Change(l), api.ErrDown)
		staysDown(t, d, s, before)
		up(t, d)
		staysDown(t, d, s, before)
		o := opened(t, d)
		has(t, o, 1, before)
		ok(t, "Change", o.Change(pairs("c", "3")))
		has(t, o, 2, append(before[:2:2], pairs("c", "3")...))
	}
}

// TestP73DownAndUp: a store that was not changed while its disk was down goes on behind that.
func TestP73DownAndUp(t *testing.T) {
	d := made(t, 20)
	s := opened(t, d)
	ok(t, "Change", s.Change(pairs("a", "1")))
	down(t, d)
	up(t, d)
	ok(t, "Change", s.Change(pairs("b", "2")))
	has(t, s, 2, pairs("a", "1", "b", "2"))
	has(t, opened(t, d), 2, pairs("a", "1", "b", "2"))
}

func TestP74Pack(t *testing.T) {
	long := x(most + 1)
	for i, r := range []struct {
		l []api.Pair
		s string
		e api.Errno
	}{
		{nil, "\x00", api.OK},
		{[]api.Pair{}, "\x00", api.OK},
		{pairs("a", "xy"), "\x02\x02a\x04xy", api.OK},
		{pairs("", ""), "\x02\x00\x00", api.OK},
		{pairs("", "1", "a", "2"), "\x04\x00\x021\x02a\x022", api.OK},
		{pairs("a", "", "b", "", "ba", "\x00"), "\x06\x02a\x00\x02b\x00\x04ba\x02\x00", api.OK},
		{pairs("Z", "", "a", "", "\x7f", "", "\x80", "", "\xff", ""), "\x0a\x02Z\x00\x02a\x00\x02\x7f\x00\x02\x80\x00\x02\xff\x00", api.OK},
		{pairs("a", x(64)), "\x02\x02a\x80\x01" + x(64), api.OK},
		{pairs(x(most), x(most)), "\x02\x80\x80\x08" + x(most) + "\x80\x80\x08" + x(most), api.OK},
		{pairs("b", "1", "a", "2"), "", api.ErrArg},
		{pairs("a", "1", "a", "2"), "", api.ErrArg},
		{pairs("a", "1", "", "2"), "", api.ErrArg},
		{pairs("", "", "", ""), "", api.ErrArg},
		{pairs("a", "", "c", "", "b", ""), "", api.ErrArg},
		{pairs("ab", "", "a", ""), "", api.ErrArg},
		{pairs("\xff", "", "\x7f", ""), "", api.ErrArg},
		{gone("a"), "", api.ErrArg},
		{append(pairs("a", ""), gone("b")...), "", api.ErrArg},
		{[]api.Pair{{Name: "a", Text: "x", Gone: true}}, "", api.ErrArg},
		{pairs(long, ""), "", api.ErrLimit},
		{pairs("a", long), "", api.ErrLimit},
		{gone(long), "", api.ErrLimit},
		{[]api.Pair{{Name: "a", Text: long, Gone: true}}, "", api.ErrLimit},
		{pairs("b", "", "a", long), "", api.ErrLimit},
		{pairs("b", "", "a", "", "c", long), "", api.ErrArg},
		{pairs("a", "", "b", long, "a", ""), "", api.ErrLimit},
		{many(keys + 1), "", api.ErrLimit},
		{append(gone("z"), many(keys)...), "", api.ErrLimit},
		{append(gone("z"), many(keys-1)...), "", api.ErrArg},
		{append(many(keys-1), pairs("\x00", "")...), "", api.ErrArg},
	} {
		if s, e := store.Pack(r.l); s != r.s || e != r.e {
			t.Errorf("row %d: %.80q, %v, not %.80q, %v", i, s, e, r.s, r.e)
		}
	}
	for n := range keys + 1 {
		if s, e := store.Pack(many(n)); s != packed(many(n)) || e != api.OK {
			t.Errorf("%d: %.80q, %v", n, s, e)
		}
	}
}

func TestP74Unpack(t *testing.T) {
	for i, l := range [][]api.Pair{
		nil, pairs("a", "xy"), pairs("", ""), pairs("", "1", "\x00", "2"), pairs("a", "", "ab", "\xff\x00", "b", x(1000)),
		pairs(x(most), x(most)), many(1), many(2), many(63), many(64), many(keys - 1), many(keys),
	} {
		if u, e := store.Unpack(packed(l)); !slices.Equal(u, l) || e != api.OK {
			t.Errorf("row %d: %.80v, %v", i, u, e)
		}
	}
	for i, s := range []string{
		"", "\x02\x02a", "\x02", "\x01", "\x03", "\x80", "\x80\x00", "\x82\x00\x02a\x00",
		"\x00\x00", "\x00x", "\x02\x02a\x00x", "\x02\x02a\x00\x00",
		"\x02\x01\x00", "\x02\x02a\x01", "\x02\x04a", "\x02\x02a\x04x", "\x02\x82\x00a\x00", "\x02\x02a\x80\x00",
		"\x04\x02b\x00\x02a\x00", "\x04\x02a\x00\x02a\x00", "\x04\x00\x00\x00\x00", "\x04\x02a\x00\x00\x00", "\x04\x02a\x00", "\x04\x04ab\x00\x02a\x00",
		"\x02\x82\x80\x08" + x(most+1) + "\x00", "\x02\x02a\x82\x80\x08" + x(most+1),
		number(keys+1) + packed(many(keys + 1))[2:], packed(many(keys + 1)), packed(many(1000)), number(keys + 1), number(65536), number(65537), number(1 << 40),
		"\xff\xff\xff\xff\xff\xff\xff\xff\xff\x01", "\xfe\xff\xff\xff\xff\xff\xff\xff\xff\x01", strings.Repeat("\xff", 100), "a",
	} {
		if l, e := store.Unpack(s); l != nil || e != api.ErrForm {
			t.Errorf("row %d: %.80v, %v, not ErrForm", i, l, e)
		}
	}
}

// TestP74EveryByte: each piece and each neighbour of a packed text is refused, or is what Pack answers of the pairs told.
func TestP74EveryByte(t *testing.T) {
	text := packed(pairs("", "q", "a", "xyz", "ab", "", "b", x(70)))
	for n := range text {
		if l, e := store.Unpack(text[:n]); l != nil || e != api.ErrForm {
			t.Errorf("the first %d bytes: %v, %v", n, l, e)
		}
		for b := range 256 {
			changed := []byte(text)
			changed[n] = byte(b)
			l, e := store.Unpack(string(changed))
			if e == api.OK {
				if s, e := store.Pack(l); s != string(changed) || e != api.OK {
					t.Fatalf("%q: %v, of which Pack makes %q, %v", changed, l, s, e)
				}
			} else if l != nil || e != api.ErrForm {
				t.Fatalf("%q: %v, %v", changed, l, e)
			}
		}
	}
}

// TestP75WholeOrNot: cut behind each write and sync, with each fate of what was not synced.
func TestP75WholeOrNot(t *testing.T) {
	before := pairs("a", "1", "b", x(100), "c", "3")
	behind := pairs("a", x(90), "c", "3", "d", "4", "e", "")
	change := append(gone("b", "z"), pairs("e", "", "a", x(90), "d", "4")...)
	cost, _ := journal.Cost(len(packed(behind)))
	for n := range cost + 1 {
		for bits := range int64(256) {
			d := made(t, 20)
			s := opened(t, d)
			ok(t, "Change", s.Change(before))
			ok(t, "Cut", d.Cut(n, bits))
			e := s.Change(change)
			if n == cost {
				ok(t, "Change", e)
				has(t, s, 2, behind)
				down(t, d)
			} else {
				is(t, "Change", e, api.ErrDown)
				has(t, s, 1, before)
			}
			up(t, d)
			for range 2 {
				if n == cost || n == cost-1 && (bits%4 == 1 || bits%4 == 2) { // all but the last sync was done, and the head survives
					has(t, opened(t, d), 2, behind)
				} else {
					has(t, opened(t, d), 1, before)
				}
			}
			if t.Failed() {
				t.Fatalf("cut at %d with %d", n, bits)
			}
		}
	}
}

func TestP76NotThere(t *testing.T) {
	for _, s := range []*store.Store{nil, {}} {
		for range 2 {
			for _, l := range [][]api.Pair{nil, pairs("a", "1"), gone("a"), pairs("a", "1", "a", "2"), pairs(x(most+1), ""), many(keys + 1)} {
				is(t, "Change", s.Change(l), api.ErrNil)
			}
			hasNot(t, s, "", "a")
			if l := s.Names(); len(l) != 0 || s.Seq() != 0 {
				t.Errorf("Names %q, Seq %d", l, s.Seq())
			}
		}
	}
}
