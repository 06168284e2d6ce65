package wire_test

import (
	"fmt"
	"math"
	"strings"
	"testing"

	"phratry/api"
	"phratry/wire"
)

// item is one thing that a Writer puts and a Reader takes.
type item struct {
	kind byte // b, n, f, t, l
	n    int64
	s    string
}

func (x item) put(w *wire.Writer) api.Errno {
	switch x.kind {
	case 'b':
		return w.Byte(int(x.n))
	case 'n':
		return w.Number(x.n)
	case 'f':
		return w.Flag(x.n == 1)
	case 't':
		return w.Text(x.s)
	}
	return w.List(int(x.n))
}

func take(r *wire.Reader, kind byte) (item, api.Errno) {
	x := item{kind: kind}
	var e api.Errno
	switch kind {
	case 'b':
		var n int
		n, e = r.Byte()
		x.n = int64(n)
	case 'n':
		x.n, e = r.Number()
	case 'f':
		var b bool
		b, e = r.Flag()
		if b {
			x.n = 1
		}
	case 't':
		x.s, e = r.Text()
	default:
		var n int
		n, e = r.List()
		x.n = int64(n)
	}
	return x, e
}

func raw(l ...int) string {
	var s strings.Builder
	for _, b := range l {
		s.WriteByte(byte(b))
	}
	return s.String()
}

const kinds = "bnftl"

// stands lists things with the bytes that the chapter gives them.
func stands() []struct {
	x    item
	want string
} {
	long := strings.Repeat("x", api.MaxBytes)
	return []struct {
		x    item
		want string
	}{
		{item{'b', 0, ""}, raw(0)},
		{item{'b', 7, ""}, raw(7)},
		{item{'b', 128, ""}, raw(128)},
		{item{'b', 255, ""}, raw(255)},
		{item{'f', 1, ""}, raw(1)},
		{item{'f', 0, ""}, raw(0)},
		{item{'n', 0, ""}, raw(0)},
		{item{'n', -1, ""}, raw(1)},
		{item{'n', 1, ""}, raw(2)},
		{item{'n', 63, ""}, raw(126)},
		{item{'n', -64, ""}, raw(127)},
		{item{'n', 64, ""}, raw(128, 1)},
		{item{'n', -65, ""}, raw(129, 1)},
		{item{'n', 8191, ""}, raw(254, 127)},
		{item{'n', -8192, ""}, raw(255, 127)},
		{item{'n', 8192, ""}, raw(128, 128, 1)},
		{item{'n', 1<<62 - 1, ""}, raw(254, 255, 255, 255, 255, 255, 255, 255, 127)},
		{item{'n', 1 << 62, ""}, raw(128, 128, 128, 128, 128, 128, 128, 128, 128, 1)},
		{item{'n', math.MaxInt64, ""}, raw(254, 255, 255, 255, 255, 255, 255, 255, 255, 1)},
		{item{'n', math.MinInt64, ""}, raw(255, 255, 255, 255, 255, 255, 255, 255, 255, 1)},
		{item{'t', 0, "ab"}, raw(4, 97, 98)},
		{item{'t', 0, ""}, raw(0)},
		{item{'t', 0, "\x00\xff\x80"}, raw(6, 0, 255, 128)},
		{item{'t', 0, long}, raw(128, 128, 8) + long},
		{item{'l', 0, ""}, raw(0)},
		{item{'l', 3, ""}, raw(6)},
		{item{'l', api.MaxBytes, ""}, raw(128, 128, 8)},
	}
}

func TestP11WriterBytes(t *testing.T) {
	if s := wire.NewWriter().Bytes(); s != "" {
		t.Errorf("new: %x", s)
	}
	all, so := wire.NewWriter(), ""
	for _, c := range stands() {
		w := wire.NewWriter()
		if e := c.x.put(w); e != api.OK || w.Bytes() != c.want {
			t.Errorf("%c %d %.10q: %v, %.20x", c.x.kind, c.x.n, c.x.s, e, w.Bytes())
		}
		so += c.want
		if e := c.x.put(all); e != api.OK || all.Bytes() != so {
			t.Errorf("%c %d %.10q: not behind the others", c.x.kind, c.x.n, c.x.s)
		}
	}
}

func TestP11WriterRefuses(t *testing.T) {
	w := wire.NewWriter()
	w.Byte(9)
	for _, c := range []struct {
		x    item
		want api.Errno
	}{
		{item{'b', -1, ""}, api.ErrArg},
		{item{'b', 256, ""}, api.ErrArg},
		{item{'b', math.MinInt64, ""}, api.ErrArg},
		{item{'b', math.MaxInt64, ""}, api.ErrArg},
		{item{'l', -1, ""}, api.ErrArg},
		{item{'l', math.MinInt64, ""}, api.ErrArg},
		{item{'l', api.MaxBytes + 1, ""}, api.ErrLimit},
		{item{'l', math.MaxInt64, ""}, api.ErrLimit},
		{item{'t', 0, strings.Repeat("x", api.MaxBytes+1)}, api.ErrLimit},
	} {
		if e := c.x.put(w); e != c.want || w.Bytes() != "\x09" {
			t.Errorf("%c %d: %v, want %v; %.20x", c.x.kind, c.x.n, e, c.want, w.Bytes())
		}
	}
	if w.Flag(true) != api.OK || w.Bytes() != "\x09\x01" {
		t.Errorf("behind errors: %x", w.Bytes())
	}
}

func TestP11WritersShareNothing(t *testing.T) {
	a, b := wire.NewWriter(), wire.NewWriter()
	a.Text("one")
	early := a.Bytes()
	b.Text("two")
	a.Text("three")
	if early != "\x06one" || b.Bytes() != "\x06two" || a.Bytes() != "\x06one\x0athree" {
		t.Errorf("%q %q %q", early, b.Bytes(), a.Bytes())
	}
}

func TestP11WriterNotThere(t *testing.T) {
	for _, w := range []*wire.Writer{nil, {}} {
		for range 2 {
			for _, n := range []int{-1, 0, 1, 256, api.MaxBytes + 1} {
				if w.Byte(n) != api.ErrNil || w.List(n) != api.ErrNil || w.Number(int64(n)) != api.ErrNil {
					t.Error("Byte, List, Number", n)
				}
			}
			if w.Flag(true) != api.ErrNil || w.Flag(false) != api.ErrNil || w.Text("") != api.ErrNil || w.Text(strings.Repeat("x", api.MaxBytes+1)) != api.ErrNil {
				t.Error("Flag, Text")
			}
			if w.Bytes() != "" {
				t.Errorf("Bytes: %x", w.Bytes())
			}
		}
	}
}

func TestP12ReaderTakes(t *testing.T) {
	if r := wire.NewReader(""); r.At() != 0 || r.End() != api.OK {
		t.Error("nothing: At, End")
	}
	for _, c := range stands() {
		r := wire.NewReader("\x05" + c.want + "\x05")
		if r.At() != 0 || r.End() != api.ErrForm {
			t.Error("new: At, End")
		}
		r.Byte()
		x, e := take(r, c.x.kind)
		if e != api.OK || x != c.x || r.At() != 1+len(c.want) || r.End() != api.ErrForm {
			t.Errorf("%.20x as %c: %v, %d, %.10q, at %d", c.want, c.x.kind, e, x.n, x.s, r.At())
		}
		if b, e := r.Byte(); b != 5 || e != api.OK || r.End() != api.OK {
			t.Errorf("%.20x as %c: took too much", c.want, c.x.kind)
		}
	}
}

func TestP12ReaderRefuses(t *testing.T) {
	long := strings.Repeat("x", api.MaxBytes+1)
	for _, c := range []struct {
		kinds, bytes string
	}{
		{kinds, ""},
		{"f", raw(2)},
		{"f", raw(128)},
		{"f", raw(255)},
		{"ntl", raw(128)},
		{"ntl", raw(128, 0)},
		{"ntl", raw(129, 0)},
		{"ntl", raw(255, 128, 0)},
		{"ntl", strings.Repeat("\x80", 9)},
		{"ntl", strings.Repeat("\x80", 9) + "\x00"},
		{"ntl", strings.Repeat("\xff", 9) + "\x02"},
		{"ntl", strings.Repeat("\xff", 9) + "\x7f"},
		{"ntl", strings.Repeat("\x80", 9) + "\x80\x01"},
		{"ntl", strings.Repeat("\xff", 9) + "\x81\x00"},
		{"ntl", strings.Repeat("\xff", 20)},
		{"t", raw(4, 97)},
		{"t", raw(2)},
		{"tl", raw(1)},
		{"tl", raw(1, 97, 98)},
		{"tl", raw(129, 128, 8)},               // -65537
		{"tl", raw(130, 128, 8) + long},        // 65537
		{"t", raw(128, 128, 8) + long[:65535]}, // 65536, a byte too few
		{"tl", raw(128, 128, 128, 128, 32)},    // 2^32
		{"tl", strings.Repeat("\xff", 9) + "\x01"},
		{"tl", "\xfe" + strings.Repeat("\xff", 8) + "\x01"},
	} {
		for _, kind := range []byte(c.kinds) {
			r := wire.NewReader("\x07" + c.bytes)
			r.Byte()
			for range 2 {
				if x, e := take(r, kind); e != api.ErrForm || x.n != 0 || x.s != "" || r.At() != 1 {
					t.Errorf("%.20x as %c: %v, %d, %.10q, at %d", c.bytes, kind, e, x.n, x.s, r.At())
				}
			}
			if c.bytes == "" {
				continue
			}
			if b, e := r.Byte(); e != api.OK || b != int(c.bytes[0]) || r.At() != 2 {
				t.Errorf("%.20x as %c: nothing may be taken, but then Byte is %d, %v", c.bytes, kind, b, e)
			}
		}
	}
}

// taken works out, otherwise than the Reader does, how many of the bytes s a thing of that kind has; 0, if there is none.
func taken(kind byte, s string) int {
	if s == "" {
		return 0
	}
	if kind == 'b' {
		return 1
	}
	if kind == 'f' {
		if s[0] > 1 {
			return 0
		}
		return 1
	}
	n := 0
	for n < len(s) && s[n] >= 128 {
		n++
	}
	if n == len(s) || n > 0 && s[n] == 0 {
		return 0
	}
	n++
	if kind == 'n' {
		return n
	}
	z := 0
	for i := n - 1; i >= 0; i-- {
		z = z*128 + int(s[i]%128)
	}
	if z%2 == 1 || z/2 > api.MaxBytes {
		return 0
	}
	if kind == 't' {
		if n+z/2 > len(s) {
			return 0
		}
		return n + z/2
	}
	return n
}

// checkTaken holds a Reader of s against taken, and a Writer of what was taken against the bytes.
func checkTaken(t *testing.T, kind byte, s string) {
	r := wire.NewReader(s)
	x, e := take(r, kind)
	n := taken(kind, s)
	if (e == api.OK) != (n > 0) || r.At() != n || (r.End() == api.OK) != (n == len(s)) {
		t.Fatalf("%x as %c: %v, at %d, want %d", s, kind, e, r.At(), n)
	}
	if e != api.OK {
		if e != api.ErrForm {
			t.Fatalf("%x as %c: %v", s, kind, e)
		}
		return
	}
	w := wire.NewWriter()
	if e := x.put(w); e != api.OK || w.Bytes() != s[:n] {
		t.Fatalf("%x as %c: written again %x, %v", s, kind, w.Bytes(), e)
	}
}

func TestP12P13AllShortBytes(t *testing.T) {
	edges := []int{0, 1, 2, 4, 8, 9, 97, 126, 127, 128, 129, 130, 254, 255}
	for _, kind := range []byte(kinds) {
		checkTaken(t, kind, "")
		for a := range 256 {
			checkTaken(t, kind, raw(a))
			for b := range 256 {
				checkTaken(t, kind, raw(a, b))
			}
			for _, b := range edges {
				for _, c := range edges {
					checkTaken(t, kind, raw(a, b, c))
					checkTaken(t, kind, raw(b, a, c, 1))
					checkTaken(t, kind, raw(b, c, a, 0))
				}
			}
		}
	}
}

func TestP12ReaderNotThere(t *testing.T) {
	for _, r := range []*wire.Reader{nil, {}} {
		for range 2 {
			for _, kind := range []byte(kinds) {
				if x, e := take(r, kind); e != api.ErrNil || x.n != 0 || x.s != "" {
					t.Errorf("%c: %v, %d, %q", kind, e, x.n, x.s)
				}
			}
			if r.End() != api.ErrNil || r.At() != 0 {
				t.Error("End, At", r.End(), r.At())
			}
		}
	}
}

// dice draws the same numbers in every run.
type dice uint64

func (d *dice) roll(n int) int {
	*d = *d*6364136223846793005 + 1442695040888963407
	return int(uint64(*d) >> 33 % uint64(n))
}

func (d *dice) item() item {
	switch kind := kinds[d.roll(len(kinds))]; kind {
	case 'b':
		return item{kind, int64(d.roll(256)), ""}
	case 'n':
		n := uint64(d.roll(1<<31))<<33 ^ uint64(d.roll(1<<31))<<11 ^ uint64(d.roll(1<<11))
		return item{kind, int64(n) >> d.roll(64), ""}
	case 'f':
		return item{kind, int64(d.roll(2)), ""}
	case 't':
		return item{kind, 0, strings.Repeat(raw(d.roll(256), d.roll(256)), d.roll(100))}
	default:
		return item{kind, int64(d.roll(api.MaxBytes + 1)), ""}
	}
}

func TestP13Rows(t *testing.T) {
	var d dice
	for run := range 300 {
		w := wire.NewWriter()
		var row []item
		for range d.roll(60) {
			x := d.item()
			row = append(row, x)
			if e := x.put(w); e != api.OK {
				t.Fatal(run, x, e)
			}
		}
		r, again := wire.NewReader(w.Bytes()), wire.NewWriter()
		for i, want := range row {
			x, e := take(r, want.kind)
			if e != api.OK || x != want {
				t.Fatal(run, i, x, e, want)
			}
			x.put(again)
			if again.Bytes() != w.Bytes()[:r.At()] {
				t.Fatal(run, i, "other bytes than were taken")
			}
		}
		if r.End() != api.OK || r.At() != len(w.Bytes()) {
			t.Fatal(run, "bytes are left")
		}
	}
}

// TestP13EveryWidth: numbers beside each power of two come back, in as few bytes as their bits need.
func TestP13EveryWidth(t *testing.T) {
	for k := range 64 {
		for _, n := range []int64{1<<k - 1, 1 << k, -1 << k, -1<<k - 1} {
			w := wire.NewWriter()
			w.Number(n)
			s := w.Bytes()
			checkNumber(t, n, s)
		}
	}
}

func checkNumber(t *testing.T, n int64, s string) {
	bits := len(fmt.Sprintf("%b", max(n, -(n+1)))) + 1
	if n == 0 || n == -1 {
		bits = 1
	}
	if len(s) != (bits+6)/7 {
		t.Errorf("%d: %d bytes of %d bits", n, len(s), bits)
	}
	r := wire.NewReader(s)
	if m, e := r.Number(); m != n || e != api.OK || r.End() != api.OK {
		t.Errorf("%d: %x, %d, %v", n, s, m, e)
	}
	for i := range len(s) {
		r := wire.NewReader(s[:i])
		if m, e := r.Number(); m != 0 || e != api.ErrForm || r.At() != 0 {
			t.Errorf("%d cut to %d bytes: %d, %v", n, i, m, e)
		}
	}
}
