package post_test

import (
	"math"
	"reflect"
	"slices"
	"testing"

	"phratry/api"
	"phratry/post"
)

// dice tells the same row of numbers at every run.
type dice uint64

func (x *dice) roll(n int) int {
	*x = *x*6364136223846793005 + 1442695040888963407
	return int(uint64(*x) >> 33 % uint64(n))
}

func (x *dice) one(l ...int) int { return l[x.roll(len(l))] }

// mail is any, with lists of any length, which need not fit together.
func (x *dice) mail() (m api.Mail) {
	x.fill(reflect.ValueOf(&m).Elem())
	return m
}

// fill gives anything to all fields of something.
func (x *dice) fill(v reflect.Value) {
	switch v.Kind() {
	case reflect.Struct:
		for i := range v.NumField() {
			x.fill(v.Field(i))
		}
	case reflect.Slice:
		v.Set(reflect.MakeSlice(v.Type(), x.roll(3), 4))
		for i := range v.Len() {
			x.fill(v.Index(i))
		}
	case reflect.Bool:
		v.SetBool(x.roll(2) == 0)
	case reflect.Uint8:
		v.SetUint(uint64(x.roll(7)))
	default:
		v.SetInt(int64(x.roll(100) - 20))
	}
}

// boxes are any that may be.
func (x *dice) boxes() (l []api.Box) {
	for device := x.roll(4); device < 12; device += 1 + x.roll(4) {
		b := api.Box{Device: device, Out: x.roll(3) == 0, Done: x.one(0, 1, 2, 5, most-1, most)}
		for range x.roll(3) {
			b.Mail = append(b.Mail, x.mail())
		}
		l = append(l, b)
	}
	return l
}

// plain is the chapter's words: of each device that has a box what came to it.
type plain map[int]*api.Box

func plainOf(l []api.Box) plain {
	p := plain{}
	for _, b := range l {
		p[b.Device] = &api.Box{Device: b.Device, Out: b.Out, Mail: slices.Clone(b.Mail), Done: b.Done}
	}
	return p
}

// boxes are all of them, by their devices, asked for one by one.
func (p plain) boxes() (l []api.Box) {
	for device := range 512 {
		if b, ok := p[device]; ok {
			l = append(l, *b)
		}
	}
	return l
}

func (p plain) open(device int) api.Errno {
	if device < 0 || device > 511 {
		return api.ErrArg
	}
	if p[device] != nil {
		return api.ErrTwice
	}
	p[device] = &api.Box{Device: device}
	return api.OK
}

func (p plain) close(device int) api.Errno {
	if device < 0 || device > 511 {
		return api.ErrArg
	}
	if p[device] == nil {
		return api.ErrGone
	}
	p[device].Out = true
	return api.OK
}

func (p plain) put(device int, m api.Mail) api.Errno {
	b := p[device]
	if b == nil {
		return api.ErrGone
	}
	if b.Out {
		return api.ErrOut
	}
	b.Mail = append(b.Mail, m)
	return api.OK
}

func (p plain) done(device, seq int) api.Errno {
	b := p[device]
	if b == nil {
		return api.ErrGone
	}
	if seq < b.Done {
		return api.ErrStale
	}
	if b.Done == most {
		return api.ErrLimit
	}
	b.Done++
	return api.OK
}

// agree: do boxes answer as the plain ones?
func agree(t *testing.T, l []api.Box, p plain, device int) {
	t.Helper()
	b := p[device]
	if there, gone := post.Has(l, device); there != (b != nil) || gone != (b != nil && b.Out) {
		t.Fatal("Has", device, there, gone)
	}
	if b == nil {
		unread(t, "none", l, device, 0, api.ErrGone)
		return
	}
	for cursor := -1; cursor <= len(b.Mail)+1; cursor++ {
		got, e := post.Since(l, device, cursor)
		if cursor < 0 || cursor > len(b.Mail) {
			if e != api.ErrArg || len(got) != 0 {
				t.Fatal("Since", device, cursor, e)
			}
			continue
		}
		same(t, "Since", got, b.Mail[cursor:])
		if e != api.OK {
			t.Fatal(device, cursor, e)
		}
	}
}

// any is one call, with what it must answer by the plain boxes, which have it then.
func (x *dice) any(device int, p plain) (turn, func() api.Errno) {
	switch x.roll(5) {
	case 0:
		return opens(device), func() api.Errno { return p.open(device) }
	case 1:
		if x.roll(3) == 0 {
			return closes(device), func() api.Errno { return p.close(device) }
		}
		fallthrough
	case 2, 3:
		m := x.mail()
		return puts(device, m), func() api.Errno { return p.put(device, m) }
	}
	seq := x.one(math.MinInt, -1, 0, 1, most, math.MaxInt)
	if b := p[device]; b != nil {
		seq = b.Done + x.one(-1, 0, 0, 0, 1, 7)
	}
	return does(device, seq), func() api.Errno { return p.done(device, seq) }
}

// TestP155Plays holds any row of calls against the chapter's words.
func TestP155Plays(t *testing.T) {
	x := dice(155)
	for range 60 {
		var l []api.Box
		p := plain{}
		if x.roll(2) == 0 {
			l = x.boxes()
			p = plainOf(l)
		}
		// From few devices, which have much mail, to many; some of them are none.
		devices := 1 + x.roll(20)
		first := x.one(-3, 0, 200, 512-devices, 515-devices)
		for range 40 {
			device := first + x.roll(devices)
			call, must := x.any(device, p)
			next, e := call(l)
			if want := must(); e != want {
				t.Fatal(device, e, want)
			}
			if e == api.OK {
				l = next
			} else if len(next) != 0 {
				t.Fatal(e, next)
			}
			same(t, "boxes", l, p.boxes())
			if e := post.Check(l); e != api.OK {
				t.Fatal(e)
			}
			agree(t, l, p, device)
			agree(t, l, p, x.roll(530)-8)
		}
	}
}

// odd changes some of the numbers of boxes, and how they stand.
func (x *dice) odd(l []api.Box) {
	for i := range l {
		if x.roll(8) == 0 {
			l[i].Device += x.one(-1, 1, -20, 20, 511, 512, math.MinInt, math.MaxInt)
		}
		if x.roll(12) == 0 {
			l[i].Done += x.one(-1, 1, most, math.MinInt, math.MaxInt)
		}
		if j := x.roll(len(l)); x.roll(20) == 0 {
			l[i], l[j] = l[j], l[i]
		}
	}
}

// words: may boxes be, as the chapter says it?
func words(l []api.Box) bool {
	ok := true
	for i, b := range l {
		ok = ok && b.Device >= 0 && b.Device <= 4*16*8-1 && b.Done >= 0 && b.Done <= most
		for _, c := range l[:i] {
			ok = ok && c.Device < b.Device
		}
	}
	return ok
}

// TestP151AnyBoxes holds all calls against the words at boxes of which some numbers are anything. (R1 too: none panics.)
func TestP151AnyBoxes(t *testing.T) {
	x := dice(151)
	good, bad := 0, 0
	for range 3000 {
		l := x.boxes()
		x.odd(l)
		device := x.roll(16) - 2
		if words(l) {
			good++
			if e := post.Check(l); e != api.OK {
				t.Fatal(e)
			}
			p := plainOf(l)
			agree(t, l, p, device)
			call, must := x.any(device, p)
			next, e := call(l)
			if want := must(); e != want {
				t.Fatal(device, e, want)
			}
			if e == api.OK {
				same(t, "boxes", next, p.boxes())
			}
			continue
		}
		bad++
		if e := post.Check(l); e != api.ErrArg {
			t.Fatal(e, l)
		}
		call, _ := x.any(device, plainOf(l))
		refused(t, "any", l, call, api.ErrArg)
		unread(t, "any", l, device, x.roll(3)-1, api.ErrArg)
		if there, gone := post.Has(l, device); there || gone {
			t.Fatal(there, gone)
		}
	}
	if good < 500 || bad < 500 {
		t.Error(good, bad)
	}
}
