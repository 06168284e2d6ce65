package client_test

import (
	"fmt"
	"math"
	"reflect"
	"slices"
	"testing"

	"phratry/account"
	"phratry/api"
	"phratry/client"
	"phratry/group"
	"phratry/term"
	"phratry/tree"
)

func random(n int64) api.Term     { return api.Term{Kind: api.TmRand, N: n} }
func data(n int64) api.Term       { return api.Term{Kind: api.TmData, N: n} }
func public(a int) api.Term       { return api.Term{Kind: api.TmPub, A: a} }
func sealed(a, b int) api.Term    { return api.Term{Kind: api.TmSeal, A: a, B: b} }
func pair(a, b int) api.Term      { return api.Term{Kind: api.TmPair, A: a, B: b} }
func kdf(n int64, a int) api.Term { return api.Term{Kind: api.TmKdf, N: n, A: a} }

// bench is a store, and a test that uses it.
type bench struct {
	t *testing.T
	s *term.Store
}

func newBench(t *testing.T) bench { return bench{t, term.New()} }

func (b bench) put(x api.Term) int {
	b.t.Helper()
	n, e := b.s.Make(x)
	if e != api.OK {
		b.t.Fatal(x, e)
	}
	return n
}

func (b bench) rand(n int) int { return b.put(random(int64(n))) }

// must is a device of a call that goes.
func (b bench) must(d api.Device, e api.Errno) api.Device {
	b.t.Helper()
	if e != api.OK {
		b.t.Fatal(e)
	}
	return d
}

func (b bench) do(d api.Device, op client.Op, draw int) api.Device {
	b.t.Helper()
	return b.must(client.Do(b.s, d, op, draw))
}

func (b bench) take(d api.Device, m api.Mail) api.Device {
	b.t.Helper()
	return b.must(client.Take(b.s, d, m))
}

// told lets a device take a commit.
func (b bench) told(d api.Device, c api.Commit) api.Device {
	b.t.Helper()
	return b.take(d, commitMail(c))
}

// opened is a device that is in, with its request sent.
func (b bench) opened(device, draw int) api.Device {
	b.t.Helper()
	d := b.must(client.Open(b.s, device, draw))
	return b.must(client.Sent(b.told(d, lastOf(d))))
}

func (b bench) pubOf(key int) int { return b.put(public(key)) }

// card is the public key of the card of an account's secret.
func (b bench) card(secret int) int {
	b.t.Helper()
	_, pub, e := account.Card(b.s, secret)
	if e != api.OK {
		b.t.Fatal(e)
	}
	return pub
}

func commitMail(c api.Commit) api.Mail { return api.Mail{Kind: api.MlCommit, Commit: c} }

func noMail(g, epoch int) api.Mail { return api.Mail{Kind: api.MlNo, Group: g, Epoch: epoch} }

func cardMail(c api.Card) api.Mail { return api.Mail{Kind: api.MlCard, Card: c} }

func faceMail(f api.Face) api.Mail { return api.Mail{Kind: api.MlFace, Face: f} }

func noteMail(n api.Note) api.Mail { return api.Mail{Kind: api.MlNote, Note: n} }

// lastOf is the commit of the last request of a device.
func lastOf(d api.Device) api.Commit { return d.Outbox[len(d.Outbox)-1].Commit }

// held is the state of a group that a device holds.
func held(t *testing.T, d api.Device, g int) api.State {
	t.Helper()
	for _, st := range d.States {
		if st.Group == g {
			return st
		}
	}
	t.Fatal("does not hold", g)
	return api.State{}
}

func holds(d api.Device, g int) bool {
	return slices.ContainsFunc(d.States, func(st api.State) bool { return st.Group == g })
}

func waits(d api.Device, g int) bool {
	return slices.ContainsFunc(d.Waits, func(p api.Pending) bool { return p.Commit.Group == g })
}

// tell is something as a text, empty lists and none being the same.
func tell(x any) string { return fmt.Sprintf("%+v", x) }

func same(t *testing.T, what string, got, want any) {
	t.Helper()
	if tell(got) != tell(want) {
		t.Fatalf("%s: %s, not %s", what, tell(got), tell(want))
	}
}

// lost are stores that are not there.
func lost() []*term.Store { return []*term.Store{nil, {}} }

// refused: a call answers an error, nothing beside it, and leaves the store as it is.
func refused(t *testing.T, s *term.Store, what string, want api.Errno, call func() (api.Device, api.Errno)) {
	t.Helper()
	many := s.Len()
	d, e := call()
	if e != want || tell(d) != tell(api.Device{}) || s.Len() != many {
		t.Fatalf("%s: %d, not %d; %s; %d terms more", what, int(e), int(want), tell(d), s.Len()-many)
	}
}

func (b bench) refusedDo(d api.Device, what string, op client.Op, want api.Errno) {
	b.t.Helper()
	refused(b.t, b.s, what, want, func() (api.Device, api.Errno) { return client.Do(b.s, d, op, 500) })
}

// house is two users and a conversation: of the user 1 the devices 8, 9 and 10, of the user 2 the device 16; the
// conversation 5 of both at the epoch 1, of which 10 has seen nothing: it is linked by a commit that only 8 and 9 have
// taken.
type house struct {
	bench
	a, b, o api.Device // 8, 9, 16
	late    api.Device // 10: let in by link
	link    api.Commit // the account's epoch 2
	created api.Commit // the conversation's epochs 0 and 1
	invited api.Commit
}

func (b bench) fresh(device, draw int) (api.Device, int) {
	b.t.Helper()
	d, pub, e := client.Fresh(b.s, device, draw)
	if e != api.OK {
		b.t.Fatal(e)
	}
	return d, pub
}

// sent is a device without requests.
func (b bench) sent(d api.Device) api.Device {
	b.t.Helper()
	for len(d.Outbox) > 0 {
		d = b.must(client.Sent(d))
	}
	return d
}

func newHouse(t *testing.T) house {
	t.Helper()
	h := house{bench: newBench(t)}
	h.a, h.o = h.opened(8, 0), h.opened(16, 1)
	second, pub := h.fresh(9, 2)
	h.a = h.do(h.a, client.Op{Kind: api.StLink, A: 9, Pub: pub}, 3)
	c := lastOf(h.a)
	h.a, h.b = h.told(h.a, c), h.told(second, c)
	h.a = h.take(h.a, cardMail(api.Card{User: 2, Pub: h.card(h.o.Past[0].Secret)}))
	h.a = h.do(h.a, client.Op{Kind: api.StCreate, A: 5}, 4)
	h.created = lastOf(h.a)
	h.a, h.b = h.told(h.a, h.created), h.told(h.b, h.created)
	h.a = h.do(h.a, client.Op{Kind: api.StInvite, A: 5, B: 2}, 5)
	h.invited = lastOf(h.a)
	h.a, h.b, h.o = h.told(h.a, h.invited), h.told(h.b, h.invited), h.told(h.o, h.invited)
	h.late, pub = h.fresh(10, 6)
	h.a = h.do(h.a, client.Op{Kind: api.StLink, A: 10, Pub: pub}, 7)
	h.link = lastOf(h.a)
	h.a, h.b = h.sent(h.told(h.a, h.link)), h.told(h.b, h.link)
	return h
}

// in is the device 10, let in.
func (h house) in() api.Device {
	h.t.Helper()
	return h.told(h.late, h.link)
}

// TestHouse: it stands as it should.
func TestHouse(t *testing.T) {
	h := newHouse(t)
	for _, d := range []api.Device{h.a, h.b, h.o} {
		st := held(t, d, 5)
		same(t, "conversation", tree.Members(st.Tree), []int{1, 2})
		same(t, "secrets", st.Now, held(t, h.a, 5).Now)
		same(t, "epoch", st.Epoch, 1)
	}
	same(t, "account", tree.Members(held(t, h.b, -2).Tree), []int{8, 9, 10})
	same(t, "states of 10", len(h.in().States), 1)
}

// TestP191Open: the commit, the wait and the request.
func TestP191Open(t *testing.T) {
	for _, device := range []int{0, 8, 15, 16, 511} {
		for _, draw := range []int{0, 7, 1 << 40, math.MaxInt} {
			b := newBench(t)
			d := b.must(client.Open(b.s, device, draw))
			user := device / 8
			st, c, e := group.Create(b.s, -1-user, group.Plan{By: device, Member: device, Seed: b.rand(draw)})
			same(t, "Create", e, api.OK)
			c.Card = b.card(st.Now.Export)
			same(t, "Open", d, api.Device{
				Number: device, Seq: 1, Waits: []api.Pending{{Commit: c, State: st}},
				Outbox: []api.Request{{Kind: api.RqOpen, Commit: c}},
			})
			d = b.told(d, c)
			same(t, "taken", d, api.Device{
				Number: device, In: true, Past: []api.Past{{Secret: st.Now.Export}}, States: []api.State{st},
				Outbox: []api.Request{{Kind: api.RqOpen, Commit: c}}, Seq: 1, Cursor: 1,
			})
		}
	}
}

func TestP191Fresh(t *testing.T) {
	for _, device := range []int{0, 9, 511} {
		for _, draw := range []int{0, 7, math.MaxInt} {
			b := newBench(t)
			d, pub, e := client.Fresh(b.s, device, draw)
			many := b.s.Len()
			first := b.rand(draw)
			same(t, "Fresh", d, api.Device{Number: device, First: first})
			same(t, "pub", []any{pub, e, many}, []any{b.pubOf(first), api.OK, 2})
		}
	}
}

func TestP191Wrong(t *testing.T) {
	for _, c := range []struct{ device, draw int }{
		{-1, 0}, {512, 0}, {0, -1}, {math.MinInt, 0}, {math.MaxInt, 0}, {0, math.MinInt}, {-1, -1}, {1 << 32, 0},
	} {
		s := term.New()
		for _, s := range append(lost(), s) {
			want := api.ErrNil
			if s != nil && s.Len() == 0 {
				if _, e := s.List(); e == api.OK {
					want = api.ErrArg
				}
			}
			refused(t, s, "Open", want, func() (api.Device, api.Errno) { return client.Open(s, c.device, c.draw) })
			refused(t, s, "Fresh", want, func() (api.Device, api.Errno) {
				d, pub, e := client.Fresh(s, c.device, c.draw)
				if pub != 0 {
					t.Error(pub)
				}
				return d, e
			})
		}
	}
}

// badDevices may not be, each for one reason.
func badDevices(good api.Device) map[string]api.Device {
	bad := map[string]api.Device{}
	for what, by := range map[string]func(d *api.Device){
		"Number -1":          func(d *api.Device) { d.Number = -1 },
		"Number 512":         func(d *api.Device) { d.Number = 512 },
		"a great Number":     func(d *api.Device) { d.Number = math.MaxInt },
		"a low Number":       func(d *api.Device) { d.Number = math.MinInt },
		"Seq":                func(d *api.Device) { d.Seq = -1 },
		"Cursor":             func(d *api.Device) { d.Cursor = -1 },
		"66 States":          func(d *api.Device) { d.States = statesOf(d.States, 66) },
		"no state":           func(d *api.Device) { d.States = nil },
		"another's account":  func(d *api.Device) { d.Number += 8 },
		"but a conversation": func(d *api.Device) { d.States = []api.State{{Group: 1}} },
	} {
		d := good
		by(&d)
		bad[what] = d
	}
	return bad
}

// statesOf is so many states, the given ones first.
func statesOf(l []api.State, many int) []api.State {
	l = slices.Clone(l)
	for g := 100; len(l) < many; g++ {
		l = append(l, api.State{Group: g})
	}
	return l
}

// TestDevices: what may not be is refused by all calls, and what may be at the edge by none.
func TestDevices(t *testing.T) {
	h := newHouse(t)
	for what, d := range badDevices(h.a) {
		h.refusedDo(d, what, client.Op{Kind: api.StAsk}, api.ErrArg)
		refused(t, h.s, what, api.ErrArg, func() (api.Device, api.Errno) { return client.Take(h.s, d, noMail(0, 0)) })
		refused(t, h.s, what, api.ErrArg, func() (api.Device, api.Errno) { return client.Sent(d) })
		refused(t, h.s, what, api.ErrArg, func() (api.Device, api.Errno) { return client.Work(h.s, d) })
		refused(t, h.s, what, api.ErrArg, func() (api.Device, api.Errno) {
			return client.Rejoin(h.s, d, api.Face{Group: -2}, 0, 0, 0)
		})
		if l := client.Owes(d); len(l) > 0 {
			t.Error(what, l)
		}
	}
	edge := h.a
	edge.States = statesOf(edge.States, 65)
	h.do(edge, client.Op{Kind: api.StAsk}, 0)
	h.take(edge, noMail(0, 0))
	h.must(client.Work(h.s, edge))
	for _, d := range []api.Device{{}, {Number: 511}, {Number: 511, Seq: math.MaxInt - 1}, {Cursor: math.MaxInt - 1}, {Out: true}, {First: -9}} {
		h.take(d, noMail(0, 0))
		if _, e := client.Sent(d); e != api.ErrGone {
			t.Error(d, e)
		}
	}
}

// TestP195Sent: one request after the other.
func TestP195Sent(t *testing.T) {
	h := newHouse(t)
	d := h.a
	for n := range 3 {
		d = h.do(d, client.Op{Kind: api.StAsk, A: 10 + n}, 0)
	}
	first := d.Seq - 3
	for n := range 3 {
		same(t, "first", d.Outbox[0], api.Request{Kind: api.RqAsk, Seq: first + n, N: 10 + n})
		next := h.must(client.Sent(d))
		want := d
		want.Outbox = d.Outbox[1:]
		same(t, "Sent", next, want)
		d = next
	}
	refused(t, h.s, "Sent", api.ErrGone, func() (api.Device, api.Errno) { return client.Sent(d) })
	// One that is out, or not in, too.
	for _, d := range []api.Device{{Out: true, Outbox: []api.Request{{N: 1}, {N: 2}}}, {Outbox: []api.Request{{N: 1}, {N: 2}}}} {
		want := d
		want.Outbox = d.Outbox[1:]
		same(t, "Sent", h.must(client.Sent(d)), want)
	}
}

// TestExamples: the chapter's table.
func TestExamples(t *testing.T) {
	b := newBench(t)
	d := b.must(client.Open(b.s, 8, 0))
	same(t, "Open", []int{len(d.Waits), len(d.Outbox)}, []int{1, 1})
	b.refusedDo(d, "not in", client.Op{Kind: api.StRefresh, A: 1}, api.ErrOut)
	d = b.told(d, d.Waits[0].Commit)
	if !d.In || len(d.Waits) != 0 {
		t.Error(d)
	}
	same(t, "Past", d.Past, []api.Past{{Epoch: 0, Secret: held(t, d, -2).Now.Export}})
	b.refusedDo(d, "refresh", client.Op{Kind: api.StRefresh, A: 1}, api.ErrGone)
	b.refusedDo(d, "itself", client.Op{Kind: api.StRevoke, A: 8}, api.ErrRule)
	b.refusedDo(d, "not in", client.Op{Kind: api.StRevoke, A: 9}, api.ErrGone)
	d = b.do(d, client.Op{Kind: api.StCreate, A: 1}, 1)
	same(t, "waits", waits(d, 1), true)
	d = b.take(d, noMail(1, 0))
	same(t, "waits", waits(d, 1), false)
	f, _ := b.fresh(9, 2)
	face := group.FaceOf(lastOf(b.must(client.Open(b.s, 8, 0))))
	refused(t, b.s, "Rejoin", api.ErrRule, func() (api.Device, api.Errno) { return client.Rejoin(b.s, f, face, 0, 0, 4) })
}

// set puts something into a field of each of many, for tables.
func set[T any](x T, by func(*T)) T {
	by(&x)
	return x
}

// copied is a copy of something that shares no list with it.
func copied[T any](x T) T {
	return cloned(reflect.ValueOf(x)).Interface().(T)
}

func cloned(v reflect.Value) reflect.Value {
	next := reflect.New(v.Type()).Elem()
	next.Set(v)
	switch v.Kind() {
	case reflect.Struct:
		for i := range v.NumField() {
			next.Field(i).Set(cloned(v.Field(i)))
		}
	case reflect.Slice:
		if v.Len() == 0 {
			return next
		}
		next.Set(reflect.MakeSlice(v.Type(), v.Len(), v.Len()))
		for i := range v.Len() {
			next.Index(i).Set(cloned(v.Index(i)))
		}
	}
	return next
}
