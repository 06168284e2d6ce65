package net_test

import (
	"fmt"
	"reflect"
	"slices"
	"testing"

	"phratry/api"
	"phratry/net"
)

// span is the memory of a list, its spare room too.
type span struct{ from, to uintptr }

// spans is the memory of all lists in something.
func spans(v reflect.Value) (l []span) {
	switch v.Kind() {
	case reflect.Struct:
		for i := range v.NumField() {
			l = append(l, spans(v.Field(i))...)
		}
	case reflect.Slice:
		whole := v.Slice(0, v.Cap())
		if v.Cap() > 0 {
			from := v.Pointer()
			l = append(l, span{from, from + uintptr(v.Cap())*v.Type().Elem().Size()})
		}
		for i := range whole.Len() {
			l = append(l, spans(whole.Index(i))...)
		}
	}
	return l
}

// apart: do no two lists in these things share memory?
func apart(t *testing.T, things ...any) {
	t.Helper()
	var l []span
	for _, x := range things {
		l = append(l, spans(reflect.ValueOf(x))...)
	}
	slices.SortFunc(l, func(a, b span) int { return int(int64(a.from) - int64(b.from)) })
	for i := 1; i < len(l); i++ {
		if l[i-1].to > l[i].from {
			t.Fatal("memory is shared")
		}
	}
}

// roomy gives each list in something memory of its own, and room to spare that has something in it.
func (x *dice) roomy(v reflect.Value) {
	switch v.Kind() {
	case reflect.Struct:
		for i := range v.NumField() {
			x.roomy(v.Field(i))
		}
	case reflect.Slice:
		long := reflect.MakeSlice(v.Type(), v.Len()+2, v.Len()+2)
		reflect.Copy(long, v)
		for i := v.Len(); i < long.Len(); i++ {
			x.fill(long.Index(i))
		}
		v.Set(long.Slice(0, v.Len()))
		for i := range v.Len() {
			x.roomy(v.Index(i))
		}
	}
}

// allOf tells something with all the room that its lists have.
func allOf(v reflect.Value) string {
	switch v.Kind() {
	case reflect.Struct:
		text := "{"
		for i := range v.NumField() {
			text += allOf(v.Field(i)) + " "
		}
		return text + "}"
	case reflect.Slice:
		text := "["
		for i := range v.Cap() {
			if i == v.Len() {
				text += "| "
			}
			text += allOf(v.Slice(0, v.Cap()).Index(i)) + " "
		}
		return text + "]"
	}
	return fmt.Sprint(v.Interface())
}

// TestR4Memory: what is handed in stays, and no two lists of what was handed in or answered share memory.
func TestR4Memory(t *testing.T) {
	x := dice(4)
	for range 40 {
		n := net.New()
		var given []api.Packet
		var before []string
		for range 6 {
			p := x.packet()
			x.roomy(reflect.ValueOf(&p).Elem())
			given, before = append(given, p), append(before, allOf(reflect.ValueOf(p)))
			is(t, "Send", n.Send(p), api.OK)
			is(t, "Copy", n.Copy(x.roll(n.Len())), api.OK)
		}
		// Something is sent twice, and its copies are copied.
		is(t, "Send", n.Send(given[0]), api.OK)
		is(t, "Copy", n.Copy(n.Len()-1), api.OK)
		is(t, "Copy", n.Copy(n.Len()-1), api.OK)
		is(t, "Drop", n.Drop(3), api.OK)
		things := []any{given, n.All(), n.All()}
		for n.Len() > 0 {
			p, e := n.Deliver(x.roll(n.Len()))
			is(t, "Deliver", e, api.OK)
			things = append(things, p, n.All())
		}
		apart(t, things...)
		for i, p := range given {
			if allOf(reflect.ValueOf(p)) != before[i] {
				t.Fatal("changed what it was given")
			}
		}
	}
}

// whole is a packet with something in each list, each time in memory of its own.
func whole(n int) api.Packet {
	tree := func() api.Tree { return api.Tree{Nodes: []api.Node{{Pub: n, Unmerged: []int{n}}}} }
	commit := func() api.Commit {
		return api.Commit{Adds: []api.Add{{Member: n}}, Removes: []int{n}, Seals: []api.Seal{{At: n}}, Joins: []api.Join{{Member: n}}, Next: tree()}
	}
	mail := api.Mail{Kind: api.MlFace, Commit: commit(), Face: api.Face{Tree: tree()}}
	return data(0, 1, n, api.Feed{Kind: api.FdMail, To: n, Commit: commit(), Mail: mail})
}

func spoilTree(x api.Tree) {
	x.Nodes[0].Unmerged[0] = 99
	x.Nodes[0] = api.Node{Pub: 99}
}

func spoilCommit(c api.Commit) {
	c.Adds[0].Member, c.Removes[0], c.Seals[0].At, c.Joins[0].Member = 99, 99, 99, 99
	spoilTree(c.Next)
}

func spoil(p api.Packet) {
	spoilCommit(p.Feed.Commit)
	spoilCommit(p.Feed.Mail.Commit)
	spoilTree(p.Feed.Mail.Face.Tree)
}

// TestR4Kept: what was sent, and what was copied, comes out as it was sent, whatever becomes of what was handed in, or
// answered.
func TestR4Kept(t *testing.T) {
	p, q := whole(1), whole(2)
	n := with(t, p, q)
	spoil(p)
	is(t, "Copy", n.Copy(0), api.OK)
	spoil(q)
	is(t, "Copy", n.Copy(2), api.OK)
	want := []api.Packet{whole(1), whole(2), whole(1), whole(1)}
	has(t, n, want)
	all := n.All()
	for i := range all {
		spoil(all[i])
		all[i] = api.Packet{}
	}
	has(t, n, want)
	all = n.All()
	got, e := n.Deliver(2)
	is(t, "Deliver", e, api.OK)
	spoil(got)
	same(t, "All ahead of that", all, want)
	want = []api.Packet{whole(1), whole(2), whole(1)}
	has(t, n, want)
	for _, p := range want {
		got, e := n.Deliver(0)
		is(t, "Deliver", e, api.OK)
		same(t, "Deliver", got, p)
		spoil(got)
	}
	has(t, n, nil)
}

// TestR4Later: what All answered stays as it was, whatever becomes of the net behind that, its spare room too.
func TestR4Later(t *testing.T) {
	n := with(t, somes(1, 2, 3)...)
	all := n.All()
	is(t, "Send", n.Send(some(4)), api.OK)
	same(t, "All", all, somes(1, 2, 3))
	_ = append(all, some(9), some(9))
	has(t, n, somes(1, 2, 3, 4))
	is(t, "Drop", n.Drop(0), api.OK)
	is(t, "Copy", n.Copy(0), api.OK)
	same(t, "All", all, somes(1, 2, 3))
	has(t, n, somes(2, 3, 4, 2))
}

// TestR4Empty: empty lists are as none.
func TestR4Empty(t *testing.T) {
	p, q := some(1), some(1)
	p.Feed.Commit.Adds, p.Feed.Commit.Removes = []api.Add{}, make([]int, 0, 3)
	p.Feed.Mail.Face.Tree.Nodes = make([]api.Node, 0, 3)
	n := with(t, p)
	has(t, n, []api.Packet{q})
	is(t, "Copy", n.Copy(0), api.OK)
	delivers(t, n, 1, q)
	delivers(t, n, 0, q)
}

// TestR5TwoNets: two nets share nothing but what both were handed, and the same is answered each time.
func TestR5TwoNets(t *testing.T) {
	p := whole(3)
	a, b := with(t, p), with(t, p)
	is(t, "Copy", a.Copy(0), api.OK)
	is(t, "Drop", a.Drop(0), api.OK)
	got, e := a.Deliver(0)
	is(t, "Deliver", e, api.OK)
	has(t, a, nil)
	spoil(got)
	has(t, b, []api.Packet{whole(3)})
	spoil(p)
	is(t, "Send", a.Send(some(1)), api.OK)
	has(t, b, []api.Packet{whole(3)})

	c, d := net.New(), net.New()
	var v, w plain
	x, y := dice(5), dice(5)
	for range 300 {
		x.agree(t, c, &v, 2)
		y.agree(t, d, &w, 2)
		same(t, "All", c.All(), d.All())
	}
}
