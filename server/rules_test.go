package server_test

import (
	"fmt"
	"reflect"
	"slices"
	"testing"

	"phratry/api"
	"phratry/server"
)

// span is the memory of a list, its spare room too.
type span struct{ from, to uintptr }

// spans is the memory of all lists in something.
func spans(v reflect.Value) (l []span) {
	switch v.Kind() {
	case reflect.Struct:
		for i := range v.NumField() {
			l = append(l, spans(v.Field(i))...)
		}
	case reflect.Slice:
		whole := v.Slice(0, v.Cap())
		if v.Cap() > 0 {
			from := v.Pointer()
			l = append(l, span{from, from + uintptr(v.Cap())*v.Type().Elem().Size()})
		}
		for i := range whole.Len() {
			l = append(l, spans(whole.Index(i))...)
		}
	}
	return l
}

// apart: do no two lists in these things share memory?
func apart(t *testing.T, things ...any) {
	t.Helper()
	var l []span
	for _, x := range things {
		l = append(l, spans(reflect.ValueOf(x))...)
	}
	slices.SortFunc(l, func(a, b span) int { return int(int64(a.from) - int64(b.from)) })
	for i := 1; i < len(l); i++ {
		if l[i-1].to > l[i].from {
			t.Fatal("memory is shared")
		}
	}
}

// roomy gives each list in something memory of its own, and room to spare that has something in it.
func (x *dice) roomy(v reflect.Value) {
	switch v.Kind() {
	case reflect.Struct:
		for i := range v.NumField() {
			x.roomy(v.Field(i))
		}
	case reflect.Slice:
		long := reflect.MakeSlice(v.Type(), v.Len()+2, v.Len()+2)
		reflect.Copy(long, v)
		for i := v.Len(); i < long.Len(); i++ {
			x.fill(long.Index(i))
		}
		v.Set(long.Slice(0, v.Len()))
		for i := range v.Len() {
			x.roomy(v.Index(i))
		}
	}
}

// allOf tells something with all the room that its lists have.
func allOf(v reflect.Value) string {
	switch v.Kind() {
	case reflect.Struct:
		text := "{"
		for i := range v.NumField() {
			text += allOf(v.Field(i)) + " "
		}
		return text + "}"
	case reflect.Slice:
		text := "["
		for i := range v.Cap() {
			if i == v.Len() {
				text += "| "
			}
			text += allOf(v.Slice(0, v.Cap()).Index(i)) + " "
		}
		return text + "]"
	}
	return fmt.Sprint(v.Interface())
}

// given is what calls are handed.
type given struct {
	Server  api.Server
	Device  int
	Request api.Request
	Packet  api.Packet
}

func (x *dice) given() given {
	g := given{Server: x.server()}
	if x.roll(2) == 0 {
		g.Server = home()
	}
	g.Device = x.deviceOf(g.Server)
	g.Request = x.request(g.Device, doneOf(g.Server, g.Device))
	g.Packet = x.packet(g.Server)
	x.roomy(reflect.ValueOf(&g).Elem())
	return g
}

// answers is all that the calls answer to these.
func (g given) answers() (all []any) {
	put := func(things ...any) { all = append(all, things...) }
	next, e := server.Ask(g.Server, g.Device, g.Request)
	put(next, e)
	after, back, e := server.Take(g.Server, g.Packet)
	put(after, back, e)
	if e == api.OK {
		g.Packet.Seq++
		more, back, e := server.Take(after, g.Packet)
		put(more, back, e)
	}
	sent, e := server.Tick(g.Server)
	put(sent, e)
	mail, e := server.Mail(g.Server, g.Device, 0)
	put(mail, e)
	s, e := server.New(g.Server.Number)
	return append(all, s, e, server.Check(g.Server))
}

// TestR4Memory: what is handed in stays, and no two lists of what was handed in or answered share memory.
func TestR4Memory(t *testing.T) {
	x := dice(4)
	for range 150 {
		g := x.given()
		before := allOf(reflect.ValueOf(g))
		things := []any{g}
		for range 2 {
			things = append(things, g.answers()...)
		}
		apart(t, things...)
		if allOf(reflect.ValueOf(g)) != before {
			t.Fatal("changed what it was given")
		}
	}
}

// TestR4Each: in each way in which one thing is put into several places, each place has its own.
func TestR4Each(t *testing.T) {
	s := copied(home())
	for _, r := range []api.Request{commits(commit(1, 2, 1, 5, 2, 6)), commits(commit(-2, 2, 8, 9, 15)), notes(note(1, 1)), faces(1), faces(-2), asks(1), commits(commit(0, 0, 1)), opens(commit(-2, 0, 8))} {
		apart(t, s, r, ask(t, s, 8, number(3, r)))
	}
	c := commit(-10, 0, 72, 73)
	apart(t, s, c, ask(t, s, 72, opens(c)))
	for _, f := range []api.Feed{toldCommit(16, commit(1, 2, 1, 5, 2, 6)), toldUser(1, commitMail(c)), toldDevice(8, faceMail(c)), toldFace(1, 16), toldAsk(1, 16), toldNote(note(1, 1), 16)} {
		apart(t, s, f, told(t, s, 2, f))
		apart(t, s, f, told(t, s, 0, f))
	}
}

// TestR4Later: servers that were answered stay as they were, whatever comes of them behind that.
func TestR4Later(t *testing.T) {
	x := dice(44)
	var all, copies []api.Server
	s := home()
	for range 60 {
		device := x.one(8, 9, 40)
		r := x.request(device, doneOf(s, device))
		if next, e := server.Ask(s, device, r); e == api.OK {
			s = next
		}
		if next, _, e := server.Take(s, x.packet(s)); e == api.OK {
			s = next
		}
		all, copies = append(all, s), append(copies, copied(s))
	}
	for i := range all {
		same(t, "later", all[i], copies[i])
	}
}

// spoil writes anything over all that the lists in something have.
func spoil(v reflect.Value) {
	switch v.Kind() {
	case reflect.Struct:
		for i := range v.NumField() {
			spoil(v.Field(i))
		}
	case reflect.Slice:
		for i := range v.Len() {
			spoil(v.Index(i))
		}
	case reflect.Int:
		if v.CanSet() {
			v.SetInt(v.Int() + 99)
		}
	}
}

// TestR4Kept: a server stays as it was answered, whatever becomes of what was handed in.
func TestR4Kept(t *testing.T) {
	for _, r := range []api.Request{commits(commit(1, 2, 1, 5, 2, 6)), commits(commit(-2, 2, 8, 9, 15)), faces(1), commits(commit(0, 0, 1))} {
		s := copied(home())
		next := ask(t, s, 8, number(3, r))
		before := copied(next)
		spoil(reflect.ValueOf(s))
		spoil(reflect.ValueOf(r))
		same(t, "kept", next, before)
	}
	for _, f := range []api.Feed{toldCommit(16, commit(1, 2, 1, 5, 2, 6)), toldUser(1, commitMail(commit(5, 5, 5))), toldFace(1, 16)} {
		s := copied(home())
		next := told(t, s, 0, f)
		early, _ := take(t, s, data(0, 1, 4, f))
		before, before2 := copied(next), copied(early)
		spoil(reflect.ValueOf(s))
		spoil(reflect.ValueOf(f))
		same(t, "kept", next, before)
		same(t, "kept", early, before2)
	}
	s := home()
	sent, _ := server.Tick(s)
	mail, _ := server.Mail(s, 8, 0)
	spoil(reflect.ValueOf(sent))
	spoil(reflect.ValueOf(mail))
	same(t, "kept", s, home())
}

// TestR4Empty: empty lists are as none, wherever they stand.
func TestR4Empty(t *testing.T) {
	bare := api.Server{Number: 1, Logs: []api.Log{}, Boxes: make([]api.Box, 0, 3), Cards: []api.Card{}, Links: make([]api.Link, 0, 5)}
	c := commit(-2, 0, 8)
	same(t, "Ask", ask(t, bare, 8, opens(c)), ask(t, newServer(1), 8, opens(c)))
	got, back := take(t, bare, data(2, 1, 0, toldFace(1, 16)))
	want, wantBack := take(t, newServer(1), data(2, 1, 0, toldFace(1, 16)))
	same(t, "Take", got, want)
	same(t, "back", back, wantBack)

	s := api.Server{Number: 1, Boxes: []api.Box{{Device: 8, Mail: make([]api.Mail, 0, 5)}}, Links: []api.Link{{Peer: 2, Queue: []api.Feed{}, Early: []api.Early{}}}}
	same(t, "Ask", ask(t, s, 8, commits(c)), carded(logged(posted(done(s, 8), commitMail(c), 8), c), c))
	same(t, "Ask", ask(t, s, 8, asks(2)), tells(done(s, 8), 2, toldAsk(2, 8)))
	if l, e := server.Tick(s); e != api.OK || len(l) != 0 {
		t.Error(l, e)
	}
	if l, e := server.Mail(s, 8, 0); e != api.OK || len(l) != 0 {
		t.Error(l, e)
	}
}

// TestR5Again: the same is answered each time.
func TestR5Again(t *testing.T) {
	x := dice(5)
	for range 100 {
		g := x.given()
		a, b := g.answers(), g.answers()
		for i := range a {
			if !reflect.DeepEqual(a[i], b[i]) {
				t.Fatal(i)
			}
		}
	}
}
