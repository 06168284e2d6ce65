package client_test

import (
	"fmt"
	"math"
	"reflect"
	"slices"
	"testing"

	"phratry/api"
	"phratry/client"
	"phratry/group"
	"phratry/term"
)

// span is the memory of a list, its spare room too.
type span struct{ from, to uintptr }

// spans is the memory of all lists in something.
func spans(v reflect.Value) (l []span) {
	switch v.Kind() {
	case reflect.Struct:
		for i := range v.NumField() {
			l = append(l, spans(v.Field(i))...)
		}
	case reflect.Slice:
		whole := v.Slice(0, v.Cap())
		if v.Cap() > 0 {
			from := v.Pointer()
			l = append(l, span{from, from + uintptr(v.Cap())*v.Type().Elem().Size()})
		}
		for i := range whole.Len() {
			l = append(l, spans(whole.Index(i))...)
		}
	}
	return l
}

// apart: do no two lists in these things share memory?
func apart(t *testing.T, what string, things ...any) {
	t.Helper()
	var l []span
	for _, x := range things {
		l = append(l, spans(reflect.ValueOf(x))...)
	}
	slices.SortFunc(l, func(a, b span) int { return int(int64(a.from) - int64(b.from)) })
	for i := 1; i < len(l); i++ {
		if l[i-1].to > l[i].from {
			t.Fatal(what, "shares memory")
		}
	}
}

// roomy is something whose lists have memory of their own, and room to spare that has something in it.
func roomy[T any](x T) T {
	v := reflect.New(reflect.TypeOf(x)).Elem()
	v.Set(reflect.ValueOf(x))
	widen(v)
	return v.Interface().(T)
}

func widen(v reflect.Value) {
	switch v.Kind() {
	case reflect.Struct:
		for i := range v.NumField() {
			widen(v.Field(i))
		}
	case reflect.Slice:
		long := reflect.MakeSlice(v.Type(), v.Len()+3, v.Len()+3)
		reflect.Copy(long, v)
		for i := v.Len(); i < long.Len(); i++ {
			fill(long.Index(i))
		}
		v.Set(long.Slice(0, v.Len()))
		for i := range v.Len() {
			widen(v.Index(i))
		}
	}
}

// fill sets all numbers in something.
func fill(v reflect.Value) {
	switch v.Kind() {
	case reflect.Struct:
		for i := range v.NumField() {
			fill(v.Field(i))
		}
	case reflect.Int:
		v.SetInt(-9)
	}
}

// allOf tells something with all the room that its lists have.
func allOf(v reflect.Value) string {
	switch v.Kind() {
	case reflect.Struct:
		text := "{"
		for i := range v.NumField() {
			text += allOf(v.Field(i)) + " "
		}
		return text + "}"
	case reflect.Slice:
		text := "["
		for i := range v.Cap() {
			if i == v.Len() {
				text += "| "
			}
			text += allOf(v.Slice(0, v.Cap()).Index(i)) + " "
		}
		return text + "]"
	}
	return fmt.Sprint(v.Interface())
}

// kept: a call leaves what it is given as it is, spare room too, and its answers share no memory with it, nor with one another.
func kept(t *testing.T, what string, call func() (api.Device, api.Errno), given ...any) api.Device {
	t.Helper()
	told := func() (l []string) {
		for _, x := range given {
			l = append(l, allOf(reflect.ValueOf(x)))
		}
		return l
	}
	before := told()
	a, e := call()
	b, again := call()
	if e != again || tell(a) != tell(b) {
		t.Fatal(what, "answers something else the second time")
	}
	if !slices.Equal(told(), before) {
		t.Fatal(what, "changes what it was given")
	}
	apart(t, what, append(slices.Clone(given), a, b)...)
	return a
}

// full is the device 8 of a house with something in each of its lists, and what it can take and do.
func (h house) full() (api.Device, []client.Op, []api.Mail) {
	h.t.Helper()
	d, ops := h.ops()
	d = h.do(d, client.Op{Kind: api.StCreate, A: 30}, 200)
	d = h.do(d, client.Op{Kind: api.StNote, A: 5, B: 4}, 201)
	d = h.take(d, noteMail(d.Outbox[len(d.Outbox)-1].Note))
	f := group.FaceOf(h.invited)
	f.Group = 40
	link := client.Op{Kind: api.StLink, A: 12, Pub: 1}
	return d, ops, []api.Mail{
		commitMail(d.Waits[0].Commit), commitMail(lastOf(h.do(h.o, client.Op{Kind: api.StRefresh, A: 5}, 202))),
		commitMail(lastOf(h.do(h.b, client.Op{Kind: api.StRefresh, A: 5}, 203))), commitMail(lastOf(h.do(h.b, link, 204))),
		commitMail(lastOf(h.do(h.b, client.Op{Kind: api.StRevoke, A: 8}, 205))), commitMail(lastOf(h.do(h.o, client.Op{Kind: api.StExpel, A: 5, B: 1}, 206))),
		noMail(30, 0), cardMail(api.Card{User: 9}), cardMail(api.Card{User: 7, Epoch: 8}), faceMail(f), noteMail(d.Outbox[len(d.Outbox)-1].Note),
		commitMail(h.invited), commitMail(h.link), commitMail(api.Commit{Group: -2, Epoch: 3, Removes: []int{8}}),
	}
}

// TestR4Memory: what is handed in stays, and nothing shares memory.
func TestR4Memory(t *testing.T) {
	h := newHouse(t)
	good, ops, mails := h.full()
	d := roomy(good)
	for _, op := range ops {
		next := kept(t, "Do", func() (api.Device, api.Errno) { return client.Do(h.s, d, op, 300) }, d)
		same(t, "Do", next, h.do(good, op, 300))
	}
	for _, m := range mails {
		m = roomy(m)
		same(t, "Take", kept(t, "Take", func() (api.Device, api.Errno) { return client.Take(h.s, d, m) }, d, m), h.take(good, m))
		late := roomy(h.late)
		kept(t, "Take", func() (api.Device, api.Errno) { return client.Take(h.s, late, m) }, late, m)
		in := roomy(h.in())
		kept(t, "Take", func() (api.Device, api.Errno) { return client.Take(h.s, in, m) }, in, m)
	}
	kept(t, "Sent", func() (api.Device, api.Errno) { return client.Sent(d) }, d)
	owing := roomy(h.owing())
	kept(t, "Work", func() (api.Device, api.Errno) { return client.Work(h.s, owing) }, owing)
	kept(t, "Work of nothing", func() (api.Device, api.Errno) { return client.Work(h.s, d) }, d)
	out := roomy(set(good, func(d *api.Device) { d.Out = true }))
	for _, m := range mails {
		kept(t, "Take of one that is out", func() (api.Device, api.Errno) { return client.Take(h.s, out, m) }, out, m)
	}
	kept(t, "Work of one that is out", func() (api.Device, api.Errno) { return client.Work(h.s, out) }, out)
	wiped, f := roomy(api.Device{Number: 9, Cards: good.Cards, Faces: good.Faces}), roomy(group.FaceOf(h.link))
	kept(t, "Rejoin", func() (api.Device, api.Errno) { return client.Rejoin(h.s, wiped, f, 1, 2, 3) }, wiped, f)
	kept(t, "Open", func() (api.Device, api.Errno) { return client.Open(h.s, 100, 3) })
	before := allOf(reflect.ValueOf(owing))
	l, again := client.Owes(owing), client.Owes(owing)
	apart(t, "Owes", owing, l, again)
	same(t, "Owes", allOf(reflect.ValueOf(owing)), before)
}

// wild are numbers at edges.
var wild = []int{math.MinInt, math.MinInt + 1, -1 << 32, -65, -2, -1, 0, 1, 2, 7, 8, 63, 64, 511, 512, 1 << 20, 1 << 32, math.MaxInt - 1, math.MaxInt}

// odd makes anything of something: each number any, each list of a few.
type odd struct {
	x *dice
	b bench
}

func (o odd) number() int {
	switch o.x.roll(4) {
	case 0:
		return o.x.one(wild)
	case 1:
		return o.x.roll(o.b.s.Len() + 2)
	}
	return o.x.roll(10) - 1
}

// spoil changes some of the numbers in something, and the lengths of some lists.
func (o odd) spoil(v reflect.Value, thin int) {
	switch v.Kind() {
	case reflect.Struct:
		for i := range v.NumField() {
			o.spoil(v.Field(i), thin)
		}
	case reflect.Slice:
		if o.x.roll(thin) == 0 {
			v.Set(v.Slice(0, o.x.roll(v.Len()+1)))
		}
		for o.x.roll(thin) == 0 && v.Len() < 70 {
			v.Set(reflect.Append(v, reflect.Zero(v.Type().Elem())))
			o.spoil(v.Index(v.Len()-1), 2)
		}
		for i := range v.Len() {
			o.spoil(v.Index(i), thin)
		}
	case reflect.Int:
		if o.x.roll(thin) == 0 {
			v.SetInt(int64(o.number()))
		}
	case reflect.Uint8:
		if o.x.roll(thin) == 0 {
			v.SetUint(uint64(o.x.roll(24)))
		}
	case reflect.Bool:
		if o.x.roll(thin) == 0 {
			v.SetBool(!v.Bool())
		}
	}
}

// TestR1AnyNumbers: no call panics, whatever it is given; with an error there is nothing else, and nothing has changed.
func TestR1AnyNumbers(t *testing.T) {
	x := dice(1)
	h := newHouse(t)
	o := odd{&x, h.bench}
	good, ops, mails := h.full()
	busy := h.do(h.do(good, client.Op{Kind: api.StRefresh, A: 5}, 301), client.Op{Kind: api.StRevoke, A: 9}, 302)
	devices := []api.Device{good, good, busy, h.late, h.in(), h.owing(), {Number: 9}}
	f := group.FaceOf(h.link)
	errors := map[api.Errno]int{}
	for range 6000 {
		thin := x.one([]int{3, 10, 40, 100, 400})
		d, op, m, f := copied(devices[x.roll(len(devices))]), ops[x.roll(len(ops))], copied(mails[x.roll(len(mails))]), copied(f)
		for _, v := range []any{&d, &op, &m, &f} {
			o.spoil(reflect.ValueOf(v).Elem(), thin)
		}
		done, mail, draw := o.number(), o.number(), o.number()
		for _, call := range []func() (api.Device, api.Errno){
			func() (api.Device, api.Errno) { return client.Open(h.s, done, draw) },
			func() (api.Device, api.Errno) { d, _, e := client.Fresh(h.s, done, draw); return d, e },
			func() (api.Device, api.Errno) { return client.Do(h.s, d, op, draw) },
			func() (api.Device, api.Errno) { return client.Take(h.s, d, m) },
			func() (api.Device, api.Errno) { return client.Rejoin(h.s, d, f, done, mail, draw) },
			func() (api.Device, api.Errno) { return client.Sent(d) },
			func() (api.Device, api.Errno) { return client.Work(h.s, d) },
		} {
			many := h.s.Len()
			next, e := call()
			errors[e]++
			if e != api.OK && (tell(next) != tell(api.Device{}) || h.s.Len() != many) {
				t.Fatal("an error leaves something", int(e), h.s.Len()-many)
			}
		}
		client.Owes(d)
	}
	for _, e := range []api.Errno{api.OK, api.ErrArg, api.ErrGone, api.ErrBusy, api.ErrRule, api.ErrOut, api.ErrKey, api.ErrTwice} {
		if errors[e] < 5 {
			t.Error("too few of", int(e), errors)
		}
	}
}

// TestR4Empty: empty lists are as none.
func TestR4Empty(t *testing.T) {
	h := newHouse(t)
	good, ops, mails := h.full()
	d := emptied(good)
	for _, op := range ops {
		same(t, "Do", h.do(d, op, 300), h.do(good, op, 300))
	}
	for _, m := range mails {
		same(t, "Take", h.take(d, emptied(m)), h.take(good, m))
	}
	f := group.FaceOf(h.link)
	same(t, "Rejoin", h.must(client.Rejoin(h.s, emptied(api.Device{Number: 9}), emptied(f), 1, 2, 3)), h.must(client.Rejoin(h.s, api.Device{Number: 9}, f, 1, 2, 3)))
	same(t, "Sent", h.must(client.Sent(d)), h.must(client.Sent(good)))
	same(t, "Owes", client.Owes(d), client.Owes(good))
	_, e := client.Sent(emptied(api.Device{}))
	same(t, "Sent", e, api.ErrGone)
}

// emptied is something whose lists that are nil are empty ones, and the other way round.
func emptied[T any](x T) T {
	x = copied(x)
	empty(reflect.ValueOf(&x).Elem())
	return x
}

func empty(v reflect.Value) {
	switch v.Kind() {
	case reflect.Struct:
		for i := range v.NumField() {
			empty(v.Field(i))
		}
	case reflect.Slice:
		for i := range v.Len() {
			empty(v.Index(i))
		}
		if v.IsNil() {
			v.Set(reflect.MakeSlice(v.Type(), 0, 0))
		} else if v.Len() == 0 {
			v.SetZero()
		}
	}
}

// TestR5Stores: in another store, in which the same was done, the same is answered, whatever else is done elsewhere.
func TestR5Stores(t *testing.T) {
	a, b := newHouse(t), newHouse(t)
	same(t, "house", []any{a.a, a.b, a.o, a.late, a.link, a.s.Len()}, []any{b.a, b.b, b.o, b.late, b.link, b.s.Len()})
	d, ops, mails := a.full()
	b.full()
	b.do(d, ops[0], 900)
	c := newHouse(t)
	other, _, _ := c.full()
	for _, op := range ops {
		same(t, "Do", a.do(d, op, 300), c.do(other, op, 300))
	}
	for _, m := range mails {
		same(t, "Take", a.take(d, m), c.take(other, m))
	}
	same(t, "terms", a.s.Len(), c.s.Len())
}

// filled is a store with the terms of another one and nothing else that this one needs, and so much room.
func filled(s *term.Store, room int) *term.Store {
	next := term.New()
	for n := 1; n <= s.Len(); n++ {
		x, _ := s.Get(n)
		next.Make(x)
	}
	for n := int64(1) << 40; next.Len() < api.MaxTerms-room; n++ {
		next.Make(random(n))
	}
	return next
}

// needs is how many terms a call makes, in a copy of a store.
func needs(s *term.Store, call func(*term.Store) (api.Device, api.Errno)) int {
	next := filled(s, api.MaxTerms-s.Len())
	call(next)
	return next.Len() - s.Len()
}

// TestLimit: where the store has no room for all that a call makes, it answers ErrLimit, and leaves it as it is; with
// just enough it goes.
func TestLimit(t *testing.T) {
	t.Parallel()
	h := newHouse(t)
	d, ops := h.ops()
	owing := h.owing()
	f := group.FaceOf(h.link)
	account := lastOf(h.do(h.a, client.Op{Kind: api.StRevoke, A: 10}, 400))
	theirs := lastOf(h.do(h.o, client.Op{Kind: api.StRefresh, A: 5}, 401))
	calls := map[string]func(*term.Store) (api.Device, api.Errno){
		"Open": func(s *term.Store) (api.Device, api.Errno) { return client.Open(s, 100, 500) },
		"Fresh": func(s *term.Store) (api.Device, api.Errno) {
			d, pub, e := client.Fresh(s, 100, 500)
			if e != api.OK && pub != 0 {
				t.Error("Fresh", pub)
			}
			return d, e
		},
		"Rejoin": func(s *term.Store) (api.Device, api.Errno) {
			return client.Rejoin(s, api.Device{Number: 9}, f, 0, 0, 500)
		},
		"Work":            func(s *term.Store) (api.Device, api.Errno) { return client.Work(s, owing) },
		"Take of account": func(s *term.Store) (api.Device, api.Errno) { return client.Take(s, h.b, commitMail(account)) },
		"Take":            func(s *term.Store) (api.Device, api.Errno) { return client.Take(s, h.a, commitMail(theirs)) },
	}
	for _, op := range ops {
		calls[fmt.Sprint("Do ", op.Kind)] = func(s *term.Store) (api.Device, api.Errno) { return client.Do(s, d, op, 500) }
	}
	for what, call := range calls {
		t.Run(what, func(t *testing.T) {
			t.Parallel()
			atBrink(t, h.s, call)
		})
	}
}

func atBrink(t *testing.T, s *term.Store, call func(*term.Store) (api.Device, api.Errno)) {
	many := needs(s, call)
	if d, e := call(filled(s, many)); e != api.OK || tell(d) == tell(api.Device{}) {
		t.Error("with just enough room", int(e))
	}
	if many == 0 {
		return
	}
	short := filled(s, many-1)
	for _, room := range []int{many - 1, 0} {
		for n := int64(1) << 50; short.Len() < api.MaxTerms-room; n++ {
			short.Make(random(n))
		}
		refused(t, short, "short", api.ErrLimit, func() (api.Device, api.Errno) { return call(short) })
	}
}

// TestNoteLimit: a note far along its chain takes much room.
func TestNoteLimit(t *testing.T) {
	t.Parallel()
	h := newHouse(t)
	d := copied(h.a)
	d.States[1].Sent = 65536
	atBrink(t, h.s, func(s *term.Store) (api.Device, api.Errno) {
		return client.Do(s, d, client.Op{Kind: api.StNote, A: 5, B: 77}, 500)
	})
}

// TestFullTakes: who takes a right note or commit whose terms are all there needs no room.
func TestFullTakes(t *testing.T) {
	t.Parallel()
	h := newHouse(t)
	d, _, mails := h.full()
	for _, m := range mails {
		client.Take(h.s, d, m)
	}
	full := filled(h.s, 0)
	for _, m := range mails {
		got, e := client.Take(full, d, m)
		same(t, "Take", e, api.OK)
		same(t, "Take", got, h.take(d, m))
	}
}
