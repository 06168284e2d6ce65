package post_test

import (
	"fmt"
	"math"
	"slices"
	"testing"

	"phratry/api"
	"phratry/post"
)

const most = 1 << 40

// no is one mail of many.
func no(n int) api.Mail { return api.Mail{Kind: api.MlNo, Group: -n, Epoch: n} }

// box is one of a device with so many mails, told apart by the device and their places.
func box(device, many, done int) api.Box {
	b := api.Box{Device: device, Done: done}
	for k := range many {
		b.Mail = append(b.Mail, no(1000*device+k))
	}
	return b
}

func out(b api.Box) api.Box {
	b.Out = true
	return b
}

// row is so many boxes, of the devices 1, 4, 7 ..; every other one is Out.
func row(many int) (l []api.Box) {
	for i := range many {
		b := box(1+3*i, i%4, i)
		b.Out = i%2 == 1
		l = append(l, b)
	}
	return l
}

// tell is the same of an empty list and of none.
func tell(x any) string { return fmt.Sprintf("%+v", x) }

func same(t *testing.T, what string, got, want any) {
	t.Helper()
	if tell(got) != tell(want) {
		t.Errorf("%s: %+v, not %+v", what, got, want)
	}
}

// turn is a call that answers other boxes.
type turn func(l []api.Box) ([]api.Box, api.Errno)

func opens(device int) turn {
	return func(l []api.Box) ([]api.Box, api.Errno) { return post.Open(l, device) }
}

func closes(device int) turn {
	return func(l []api.Box) ([]api.Box, api.Errno) { return post.Close(l, device) }
}

func puts(device int, m api.Mail) turn {
	return func(l []api.Box) ([]api.Box, api.Errno) { return post.Put(l, device, m) }
}

func does(device, seq int) turn {
	return func(l []api.Box) ([]api.Box, api.Errno) { return post.Done(l, device, seq) }
}

func made(t *testing.T, l []api.Box, call turn) []api.Box {
	t.Helper()
	before := tell(l)
	next, e := call(l)
	if e != api.OK {
		t.Fatal(e)
	}
	if tell(l) != before {
		t.Fatal("changed what it was given")
	}
	return next
}

func refused(t *testing.T, what string, l []api.Box, call turn, want api.Errno) {
	t.Helper()
	before := tell(l)
	next, e := call(l)
	if e != want || len(next) != 0 || tell(l) != before {
		t.Error(what, e, next)
	}
}

func unread(t *testing.T, what string, l []api.Box, device, cursor int, want api.Errno) {
	t.Helper()
	if m, e := post.Since(l, device, cursor); e != want || len(m) != 0 {
		t.Error(what, device, cursor, m, e)
	}
}

// badBoxes are some that may not be: most have one of the device 3.
func badBoxes() map[string][]api.Box {
	return map[string][]api.Box{
		"a device of -1":              {box(-1, 1, 0)},
		"a device of -1, and another": {box(-1, 1, 0), box(3, 1, 0)},
		"a device of 512":             {box(512, 1, 0)},
		"a device of 512 last":        {box(3, 1, 0), box(511, 1, 0), box(512, 1, 0)},
		"the least":                   {box(math.MinInt, 1, 0), box(3, 1, 0)},
		"the greatest":                {box(3, 1, 0), box(math.MaxInt, 1, 0)},
		"512 more than a device":      {box(3, 1, 0), box(515, 1, 0)},
		"2^32 more than a device":     {box(3, 1, 0), box(1<<32+4, 1, 0)},
		"one twice":                   {box(3, 1, 0), box(3, 1, 0)},
		"0 twice":                     {box(0, 1, 0), box(0, 1, 0), box(3, 1, 0)},
		"one twice, last":             {box(2, 1, 0), box(3, 1, 0), box(3, 1, 0)},
		"falling":                     {box(4, 1, 0), box(3, 1, 0)},
		"falling behind rising ones":  {box(1, 1, 0), box(3, 2, 0), box(2, 1, 0)},
		"falling ahead of rising":     {box(3, 1, 0), box(0, 1, 0), box(8, 1, 0), box(9, 1, 0)},
		"done of -1":                  {box(3, 1, -1)},
		"done of the least":           {box(3, 1, math.MinInt)},
		"done of one too many":        {box(3, 1, most+1)},
		"done of the greatest":        {box(3, 1, math.MaxInt)},
		"done of another one":         {box(3, 1, 0), box(4, 1, -1)},
		"done of an earlier one":      {box(2, 1, most+1), box(3, 1, 0)},
		"done of one that is out":     {box(3, 1, 0), out(box(4, 1, -1))},
		"a device of 512, out":        {box(3, 1, 0), out(box(512, 0, 0))},
	}
}

// numbers are devices, and what is next to them.
func numbers() []int {
	return []int{math.MinInt, -1 << 32, -512, -1, 0, 1, 2, 3, 4, 5, 9, 510, 511, 512, 513, 1<<32 + 3, math.MaxInt}
}

func TestP151Check(t *testing.T) {
	all := make([]api.Box, 512)
	for i := range all {
		all[i].Device = i
	}
	for what, l := range map[string][]api.Box{
		"none":               nil,
		"none, with room":    make([]api.Box, 0, 4),
		"a zero one":         {{}},
		"the first":          {box(0, 1, 0)},
		"the last":           {box(511, 1, 0)},
		"first and last":     {box(0, 1, 0), box(511, 1, 0)},
		"side by side":       {box(3, 1, 0), box(4, 1, 0), box(5, 1, 0)},
		"many":               row(100),
		"all that there are": all,
		"out":                {out(box(3, 2, 1)), box(4, 0, 0), out(box(5, 0, 0))},
		"done of 1":          {box(3, 0, 1)},
		"the most done":      {box(3, 0, most), box(4, 0, most-1)},
		"any mail":           {{Device: 3, Mail: []api.Mail{{}, {Kind: 200, Group: math.MinInt}, {Kind: api.MlCard, Card: api.Card{User: -5, Pub: -1}}}}},
	} {
		if e := post.Check(l); e != api.OK {
			t.Error(what, e)
		}
	}
	for what, l := range badBoxes() {
		if e := post.Check(l); e != api.ErrArg {
			t.Error(what, e)
		}
	}
	for device := -3; device < 520; device++ {
		want := api.OK
		if device < 0 || device > 511 {
			want = api.ErrArg
		}
		if e := post.Check([]api.Box{{Device: device}}); e != want {
			t.Error(device, e)
		}
	}
}

func TestP152Open(t *testing.T) {
	for many := range 12 {
		l := row(many)
		for device := range 40 {
			at := (device + 1) / 3
			if device%3 == 1 && at < many {
				refused(t, "there", l, opens(device), api.ErrTwice)
				continue
			}
			want := slices.Insert(row(many), min(at, many), api.Box{Device: device})
			same(t, "Open", made(t, l, opens(device)), want)
		}
		same(t, "the last", made(t, l, opens(511)), append(row(many), api.Box{Device: 511}))
	}
}

// TestP152OpenAll: each device can have one, in whatever order they come.
func TestP152OpenAll(t *testing.T) {
	var l []api.Box
	for i := range 512 {
		l = made(t, l, opens(i*317%512))
	}
	if len(l) != 512 || post.Check(l) != api.OK {
		t.Fatal(len(l))
	}
	for i, b := range l {
		same(t, "Open", b, api.Box{Device: i})
		refused(t, "all are there", l, opens(i), api.ErrTwice)
	}
}

func TestP152OpenWrong(t *testing.T) {
	for _, device := range numbers() {
		for what, l := range badBoxes() {
			refused(t, what, l, opens(device), api.ErrArg)
		}
		if device < 0 || device > 511 {
			refused(t, "no device", nil, opens(device), api.ErrArg)
			refused(t, "no device", row(5), opens(device), api.ErrArg)
		}
	}
	refused(t, "out", []api.Box{out(box(3, 0, 0))}, opens(3), api.ErrTwice)
}

func TestP152Has(t *testing.T) {
	for many := range 20 {
		l := row(many)
		for device := -5; device < 70; device++ {
			there, gone := post.Has(l, device)
			want := device >= 1 && device%3 == 1 && device/3 < many
			if there != want || gone != (want && device/3%2 == 1) {
				t.Error(many, device, there, gone)
			}
		}
	}
	l := []api.Box{box(0, 0, 0), out(box(3, 1, most)), box(511, 0, 0)}
	for _, device := range numbers() {
		there, gone := post.Has(l, device)
		if there != (device == 0 || device == 3 || device == 511) || gone != (device == 3) {
			t.Error(device, there, gone)
		}
	}
}

func TestP152HasWrong(t *testing.T) {
	for what, l := range badBoxes() {
		for i := range l {
			l[i].Out = true
		}
		for _, device := range numbers() {
			if there, gone := post.Has(l, device); there || gone {
				t.Error(what, device, there, gone)
			}
		}
	}
}

func TestP152Close(t *testing.T) {
	for many := range 12 {
		l := row(many)
		for device := range 40 {
			at := device / 3
			if device%3 != 1 || at >= many {
				refused(t, "none", l, closes(device), api.ErrGone)
				continue
			}
			want := row(many)
			want[at].Out = true
			next := made(t, l, closes(device))
			same(t, "Close", next, want)
			if there, gone := post.Has(next, device); !there || !gone {
				t.Error(device, there, gone)
			}
			same(t, "Close twice", made(t, next, closes(device)), want)
		}
	}
}

func TestP152CloseWrong(t *testing.T) {
	for _, device := range numbers() {
		for what, l := range badBoxes() {
			refused(t, what, l, closes(device), api.ErrArg)
		}
		want := api.ErrGone
		if device < 0 || device > 511 {
			want = api.ErrArg
		}
		refused(t, "none", nil, closes(device), want)
		refused(t, "none", []api.Box{box(6, 1, 1), box(100, 1, 1)}, closes(device), want)
	}
}

// anyMail is one of each kind, and some that are none, with something in each field, none of it sensible.
func anyMail() (l []api.Mail) {
	for kind := range api.MailKind(9) {
		n := int(kind) + 1
		at := api.Tree{Nodes: []api.Node{{Pub: -n, Unmerged: []int{n, n}}, {}, {Member: -n}}}
		c := api.Commit{Group: n, Epoch: -n, By: n, Adds: []api.Add{{Member: -n}}, Removes: []int{-n, n}, Next: at, Card: n}
		c.Seals, c.Joins = []api.Seal{{At: n}, {To: -n}}, []api.Join{{Member: n, Term: -n}}
		l = append(l, api.Mail{Kind: kind, Commit: c, Group: -n, Epoch: math.MinInt, Card: api.Card{User: -n, Epoch: -n, Pub: -n},
			Face: api.Face{Group: n, Epoch: -n, Tree: at, Pub: -n}, Note: api.Note{Group: n, Epoch: n, By: -n, N: -n, Term: -n}})
	}
	return append(l, api.Mail{}, api.Mail{Kind: 255})
}

func TestP153Put(t *testing.T) {
	for many := range 12 {
		l := row(many)
		for device := range 40 {
			at := device / 3
			if device%3 != 1 || at >= many {
				refused(t, "none", l, puts(device, no(5)), api.ErrGone)
				continue
			}
			if at%2 == 1 {
				refused(t, "out", l, puts(device, no(5)), api.ErrOut)
				continue
			}
			want := row(many)
			want[at].Mail = append(want[at].Mail, no(5))
			same(t, "Put", made(t, l, puts(device, no(5))), want)
		}
	}
}

func TestP153AnyMail(t *testing.T) {
	l := []api.Box{box(3, 0, 0), box(5, 0, 0)}
	for _, m := range anyMail() {
		l = made(t, l, puts(5, m))
	}
	same(t, "Put", l, []api.Box{{Device: 3}, {Device: 5, Mail: anyMail()}})
	got, e := post.Since(l, 5, 0)
	same(t, "Since", got, anyMail())
	if e != api.OK {
		t.Error(e)
	}
	// The same mail again is one more.
	l = made(t, made(t, l, puts(3, no(1))), puts(3, no(1)))
	same(t, "twice", l[0].Mail, []api.Mail{no(1), no(1)})
}

func TestP153PutWrong(t *testing.T) {
	for _, device := range numbers() {
		for what, l := range badBoxes() {
			refused(t, what, l, puts(device, no(1)), api.ErrArg)
			for i := range l {
				l[i].Out = true
			}
			refused(t, what, l, puts(device, no(1)), api.ErrArg)
		}
		refused(t, "none", nil, puts(device, no(1)), api.ErrGone)
		refused(t, "none", []api.Box{box(6, 1, 1), out(box(100, 1, 1))}, puts(device, no(1)), api.ErrGone)
	}
}

func TestP153Since(t *testing.T) {
	l := []api.Box{box(0, 3, 0), out(box(3, 5, 1)), box(4, 0, 2), out(box(9, 0, most)), box(511, 40, most)}
	for _, b := range l {
		for cursor := range len(b.Mail) + 1 {
			got, e := post.Since(l, b.Device, cursor)
			if e != api.OK || len(got) != len(b.Mail)-cursor {
				t.Error(b.Device, cursor, len(got), e)
			}
			same(t, "Since", got, b.Mail[cursor:])
		}
		for _, cursor := range []int{math.MinInt, -1 << 32, -2, -1, len(b.Mail) + 1, len(b.Mail) + 2, 1 << 32, math.MaxInt} {
			unread(t, "no place", l, b.Device, cursor, api.ErrArg)
		}
	}
}

// TestP153SinceWrong: boxes that may not be come first, then a device without one, then the place.
func TestP153SinceWrong(t *testing.T) {
	for _, device := range numbers() {
		for _, cursor := range []int{math.MinInt, -1, 0, 1, 2, math.MaxInt} {
			for what, l := range badBoxes() {
				unread(t, what, l, device, cursor, api.ErrArg)
			}
			unread(t, "none", nil, device, cursor, api.ErrGone)
			unread(t, "none", []api.Box{box(6, 1, 1), out(box(100, 1, 1))}, device, cursor, api.ErrGone)
		}
	}
}

func TestP154Done(t *testing.T) {
	for _, done := range []int{0, 1, 2, 3, 1<<31 - 1, 1 << 32, most - 2, most - 1} {
		for _, gone := range []bool{false, true} {
			l := []api.Box{box(2, 1, 5), {Device: 3, Out: gone, Mail: []api.Mail{no(7)}, Done: done}, box(4, 2, most)}
			want := []api.Box{box(2, 1, 5), {Device: 3, Out: gone, Mail: []api.Mail{no(7)}, Done: done + 1}, box(4, 2, most)}
			for _, seq := range []int{done, done + 1, done + 2, most, most + 1, math.MaxInt} {
				same(t, "Done", made(t, l, does(3, seq)), want)
			}
			for _, seq := range []int{done - 1, done - 2, -1, -done - 1, math.MinInt} {
				refused(t, "before", l, does(3, seq), api.ErrStale)
			}
		}
	}
}

func TestP154Limit(t *testing.T) {
	for _, b := range []api.Box{box(3, 2, most), out(box(3, 2, most))} {
		for _, seq := range []int{most, most + 1, math.MaxInt} {
			refused(t, "the most", []api.Box{box(0, 0, 0), b}, does(3, seq), api.ErrLimit)
		}
		for _, seq := range []int{most - 1, 0, -1, math.MinInt} {
			refused(t, "stale ahead of the limit", []api.Box{box(0, 0, 0), b}, does(3, seq), api.ErrStale)
		}
	}
	l := made(t, []api.Box{box(3, 0, most-1)}, does(3, most-1))
	if l[0].Done != most || post.Check(l) != api.OK {
		t.Error(l)
	}
	refused(t, "one more", l, does(3, most), api.ErrLimit)
}

func TestP154Wrong(t *testing.T) {
	for _, device := range numbers() {
		for _, seq := range []int{math.MinInt, -1, 0, 1, most, math.MaxInt} {
			for what, l := range badBoxes() {
				refused(t, what, l, does(device, seq), api.ErrArg)
			}
			refused(t, "none", nil, does(device, seq), api.ErrGone)
			refused(t, "none", []api.Box{box(6, 1, 1), out(box(100, 1, most))}, does(device, seq), api.ErrGone)
		}
	}
}

// TestP155Others: boxes of other devices are as they were.
func TestP155Others(t *testing.T) {
	l := []api.Box{out(box(1, 3, 4)), {Device: 2, Mail: anyMail(), Done: most}, box(5, 2, 6), {Device: 7, Mail: anyMail(), Done: 1}, out(box(511, 1, 0))}
	for what, call := range map[string]turn{"Open": opens(6), "Close": closes(5), "Put": puts(5, no(9)), "Done": does(5, 6)} {
		next := made(t, l, call)
		if post.Check(next) != api.OK {
			t.Error(what, next)
		}
		next = slices.DeleteFunc(next, func(b api.Box) bool { return b.Device == 5 || b.Device == 6 })
		same(t, what, next, slices.Concat(l[:2], l[3:]))
	}
}

// TestP155Readers: whoever reads from 0, and then on from how many there were, at whatever times, has read all, each once, in order.
func TestP155Readers(t *testing.T) {
	const many = 12
	for times := range 1 << many {
		if times%37 != 0 {
			continue
		}
		l := made(t, made(t, nil, opens(8)), opens(3))
		var put, read []api.Mail
		for k := range many {
			l = made(t, made(t, l, puts(8, no(k))), puts(3, no(100+k)))
			put = append(put, no(k))
			if k == many-1 {
				l = made(t, l, closes(8))
			}
			if times>>k&1 == 1 || k == many-1 {
				got, e := post.Since(l, 8, len(read))
				if e != api.OK {
					t.Fatal(e)
				}
				read = append(read, got...)
				same(t, "read", read, put)
			}
		}
	}
}

func TestExamples(t *testing.T) {
	m, n := no(1), no(2)
	l := made(t, nil, opens(9))
	same(t, "a box", l, []api.Box{{Device: 9}})
	l = made(t, l, opens(3))
	same(t, "those of 3, 9", l, []api.Box{{Device: 3}, {Device: 9}})
	refused(t, "3 again", l, opens(3), api.ErrTwice)
	refused(t, "512", l, opens(512), api.ErrArg)

	l = made(t, made(t, l, puts(3, m)), puts(3, n))
	for cursor, want := range [][]api.Mail{{m, n}, {n}, {}} {
		got, e := post.Since(l, 3, cursor)
		same(t, "Since", got, want)
		if e != api.OK {
			t.Error(cursor, e)
		}
	}
	unread(t, "3 3", l, 3, 3, api.ErrArg)

	l = made(t, l, closes(3))
	refused(t, "out", l, puts(3, m), api.ErrOut)
	if there, gone := post.Has(l, 3); !there || !gone {
		t.Error(there, gone)
	}
	if there, gone := post.Has(l, 4); there || gone {
		t.Error(there, gone)
	}

	l = made(t, l, does(9, 0))
	refused(t, "9 0 again", l, does(9, 0), api.ErrStale)
	l = made(t, l, does(9, 1))
	same(t, "at last", l, []api.Box{{Device: 3, Out: true, Mail: []api.Mail{m, n}}, {Device: 9, Done: 2}})
}
