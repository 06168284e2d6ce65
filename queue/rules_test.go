package queue_test

import (
	"fmt"
	"reflect"
	"slices"
	"testing"

	"phratry/api"
	"phratry/fresh"
	"phratry/queue"
)

// span is the memory of a list, its spare room too.
type span struct{ from, to uintptr }

// spans is the memory of all lists in something.
func spans(v reflect.Value) (l []span) {
	switch v.Kind() {
	case reflect.Struct:
		for i := range v.NumField() {
			l = append(l, spans(v.Field(i))...)
		}
	case reflect.Slice:
		whole := v.Slice(0, v.Cap())
		if v.Cap() > 0 {
			from := v.Pointer()
			l = append(l, span{from, from + uintptr(v.Cap())*v.Type().Elem().Size()})
		}
		for i := range whole.Len() {
			l = append(l, spans(whole.Index(i))...)
		}
	}
	return l
}

// apart: do no two lists in these things share memory?
func apart(t *testing.T, things ...any) {
	t.Helper()
	var l []span
	for _, x := range things {
		l = append(l, spans(reflect.ValueOf(x))...)
	}
	slices.SortFunc(l, func(a, b span) int { return int(int64(a.from) - int64(b.from)) })
	for i := 1; i < len(l); i++ {
		if l[i-1].to > l[i].from {
			t.Fatal("memory is shared")
		}
	}
}

// roomy gives each list in something memory of its own, and room to spare that has something in it.
func (x *dice) roomy(v reflect.Value) {
	switch v.Kind() {
	case reflect.Struct:
		for i := range v.NumField() {
			x.roomy(v.Field(i))
		}
	case reflect.Slice:
		long := reflect.MakeSlice(v.Type(), v.Len()+2, v.Len()+2)
		reflect.Copy(long, v)
		for i := v.Len(); i < long.Len(); i++ {
			x.fill(long.Index(i))
		}
		v.Set(long.Slice(0, v.Len()))
		for i := range v.Len() {
			x.roomy(v.Index(i))
		}
	}
}

// allOf tells something with all the room that its lists have.
func allOf(v reflect.Value) string {
	switch v.Kind() {
	case reflect.Struct:
		text := "{"
		for i := range v.NumField() {
			text += allOf(v.Field(i)) + " "
		}
		return text + "}"
	case reflect.Slice:
		text := "["
		for i := range v.Cap() {
			if i == v.Len() {
				text += "| "
			}
			text += allOf(v.Slice(0, v.Cap()).Index(i)) + " "
		}
		return text + "]"
	}
	return fmt.Sprint(v.Interface())
}

// answers is what all calls answer of links, a feed, and packets that come from a peer at each place about its link's.
func answers(l []api.Link, peer int, f api.Feed) (all []any) {
	put := func(things ...any) { all = append(all, things...) }
	next, e := queue.Push(l, peer, f)
	put(next, e)
	sent, e := queue.Sends(l, peer)
	put(sent, e)
	there := of(l, peer)
	for i := -2; i <= 4; i++ {
		for _, p := range []api.Packet{data(peer, 0, there.Expect+i, f), ack(peer, 0, there.Next+i)} {
			next, told, back, e := queue.Take(l, p)
			put(next, told, back, e)
		}
	}
	return append(all, queue.Check(l))
}

// TestR4Memory: what is handed in stays, and no two lists of what was handed in or answered share memory.
func TestR4Memory(t *testing.T) {
	x := dice(4)
	for range 60 {
		l, f := x.links(), x.feed()
		x.roomy(reflect.ValueOf(&l).Elem())
		x.roomy(reflect.ValueOf(&f).Elem())
		before, given := allOf(reflect.ValueOf(l)), allOf(reflect.ValueOf(f))
		things := []any{l, f}
		for peer := range 4 {
			things = append(things, answers(l, peer, f)...)
		}
		things = append(things, answers(l, x.roll(4), f)...)
		apart(t, things...)
		if allOf(reflect.ValueOf(l)) != before || allOf(reflect.ValueOf(f)) != given {
			t.Fatal("changed what it was given")
		}
	}
}

// TestR4Later: links that were answered stay as they were, whatever comes to them behind that.
func TestR4Later(t *testing.T) {
	x := dice(44)
	var all, copies [][]api.Link
	var l []api.Link
	for range 30 {
		for range 3 {
			l = push(t, l, 2, x.feed())
		}
		there := of(l, 2)
		l, _, _ = take(t, l, data(2, 0, there.Expect+x.roll(3), x.feed()))
		l, _, _ = take(t, l, ack(2, 0, there.Next-x.roll(4)))
		all, copies = append(all, l), append(copies, fresh.List(l, fresh.Link))
	}
	for i := range all {
		same(t, "later", all[i], copies[i])
	}
}

// TestR4Kept: what was pushed, or has come, stays as it was, whatever becomes of what was handed in, or answered.
func TestR4Kept(t *testing.T) {
	whole := func() api.Feed {
		tree := api.Tree{Nodes: []api.Node{{Pub: 1, Unmerged: []int{2}}}}
		c := api.Commit{Adds: []api.Add{{Member: 3}}, Removes: []int{4}, Seals: []api.Seal{{At: 5}}, Joins: []api.Join{{Member: 6}}, Next: tree}
		return api.Feed{Kind: api.FdMail, To: 7, Commit: c, Mail: api.Mail{Kind: api.MlFace, Face: api.Face{Tree: tree}}}
	}
	// own has lists of its own, which whole's two trees have not.
	own := func() api.Feed { return fresh.Feed(whole()) }
	spoil := func(f api.Feed) {
		f.Commit.Adds[0].Member, f.Commit.Removes[0], f.Commit.Seals[0].At, f.Commit.Joins[0].Member = 99, 99, 99, 99
		f.Commit.Next.Nodes[0].Unmerged[0], f.Mail.Face.Tree.Nodes[0].Pub = 99, 99
	}
	f := own()
	l := push(t, nil, 1, f)
	spoil(f)
	same(t, "pushed", l[0].Queue, []api.Feed{whole()})
	p := sends(t, l, 0)
	spoil(p[0].Feed)
	same(t, "sent", l[0].Queue, []api.Feed{whole()})

	p = sends(t, push(t, l, 1, own()), 0)
	r, _, _ := take(t, nil, p[1])
	spoil(p[1].Feed)
	same(t, "come early", r[0].Early, []api.Early{{Seq: 1, Feed: whole()}})
	_, told, _ := take(t, r, p[0])
	spoil(p[0].Feed)
	same(t, "told", told, []api.Feed{whole(), whole()})
	spoil(told[1])
	same(t, "come early", r[0].Early, []api.Early{{Seq: 1, Feed: whole()}})
}

// TestR4Empty: empty lists are as none, wherever they stand.
func TestR4Empty(t *testing.T) {
	for _, none := range [][]api.Link{nil, {}, make([]api.Link, 0, 5)} {
		same(t, "Push", push(t, none, 3, feed(1)), []api.Link{{Peer: 3, Next: 1, Queue: feeds(1)}})
		same(t, "Sends", sends(t, none, 3), nil)
		comes(t, none, data(1, 0, 0, feed(1)), api.Link{Peer: 1, Expect: 1}, 1)
		hears(t, none, ack(1, 0, 0), api.Link{Peer: 1})
	}
	l := []api.Link{{Peer: 1, Next: 4, Queue: []api.Feed{}, Expect: 2, Early: make([]api.Early, 0, 3)}}
	same(t, "Push", push(t, l, 1, feed(1)), []api.Link{{Peer: 1, Next: 5, Queue: feeds(1), Expect: 2}})
	same(t, "Sends", sends(t, l, 3), nil)
	comes(t, l, data(1, 0, 2, feed(1)), api.Link{Peer: 1, Next: 4, Expect: 3}, 1)
	hears(t, l, ack(1, 0, 4), l[0])
}

// TestR5Again: the same is answered each time.
func TestR5Again(t *testing.T) {
	x := dice(5)
	for range 60 {
		l, f, peer := x.links(), x.feed(), x.roll(4)
		a, b := answers(l, peer, f), answers(l, peer, f)
		for i := range a {
			if !reflect.DeepEqual(a[i], b[i]) {
				t.Fatal(i)
			}
		}
	}
}
