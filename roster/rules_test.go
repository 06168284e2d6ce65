package roster_test

import (
	"reflect"
	"slices"
	"testing"

	"phratry/api"
	"phratry/roster"
)

// span is the memory of a list, its spare room too.
type span struct{ from, to uintptr }

// spans is the memory of all lists in something.
func spans(v reflect.Value) (l []span) {
	switch v.Kind() {
	case reflect.Struct:
		for i := range v.NumField() {
			l = append(l, spans(v.Field(i))...)
		}
	case reflect.Slice:
		whole := v.Slice(0, v.Cap())
		if v.Cap() > 0 {
			from := v.Pointer()
			l = append(l, span{from, from + uintptr(v.Cap())*v.Type().Elem().Size()})
		}
		for i := range whole.Len() {
			l = append(l, spans(whole.Index(i))...)
		}
	}
	return l
}

// apart: do no two lists in these things share memory?
func apart(t *testing.T, things ...any) {
	t.Helper()
	var l []span
	for _, x := range things {
		l = append(l, spans(reflect.ValueOf(x))...)
	}
	slices.SortFunc(l, func(a, b span) int { return int(int64(a.from) - int64(b.from)) })
	for i := 1; i < len(l); i++ {
		if l[i-1].to > l[i].from {
			t.Fatal("memory is shared")
		}
	}
}

// roomy gives each list in something memory of its own, and room to spare that has something in it.
func (x *dice) roomy(v reflect.Value) {
	switch v.Kind() {
	case reflect.Struct:
		for i := range v.NumField() {
			x.roomy(v.Field(i))
		}
	case reflect.Slice:
		long := reflect.MakeSlice(v.Type(), v.Len()+2, v.Len()+2)
		reflect.Copy(long, v)
		for i := v.Len(); i < long.Len(); i++ {
			x.fill(long.Index(i))
		}
		v.Set(long.Slice(0, v.Len()))
		for i := range v.Len() {
			x.roomy(v.Index(i))
		}
	}
}

// allOf tells something with all the room that its lists have.
func allOf(v reflect.Value) string {
	switch v.Kind() {
	case reflect.Struct:
		text := "{"
		for i := range v.NumField() {
			text += allOf(v.Field(i)) + " "
		}
		return text + "}"
	case reflect.Slice:
		text := "["
		for i := range v.Cap() {
			if i == v.Len() {
				text += "| "
			}
			text += allOf(v.Slice(0, v.Cap()).Index(i)) + " "
		}
		return text + "]"
	}
	return tell(v.Interface())
}

// given is what calls are handed.
type given struct {
	Boxes          []api.Box
	Cards          []api.Card
	Before, Behind api.Tree
	Mail           api.Mail
}

func (x *dice) given() given {
	some := []int{0, 1, 2, 3, 4, 5, 6, 7, 9, 30}
	g := given{x.boxes(), x.cards(), x.tree(some), x.tree(some), x.mail()}
	x.roomy(reflect.ValueOf(&g).Elem())
	return g
}

// answers is all that the calls answer to these.
func (g given) answers() (things []any) {
	for user := range 6 {
		own, _ := roster.Devices(g.Boxes, user)
		next, _ := roster.SetCard(g.Cards, api.Card{User: user, Pub: 1})
		roster.Card(g.Cards, user)
		things = append(things, own, next)
	}
	for _, at := range []api.Tree{g.Before, g.Behind, {}} {
		for _, to := range []api.Tree{g.Behind, g.Before, {}, {Nodes: make([]api.Node, 2)}} {
			next, _ := roster.Settle(g.Boxes, at, to, g.Mail)
			things = append(things, next)
		}
	}
	last, _ := roster.SetCard(g.Cards, api.Card{User: 63, Pub: 1})
	wrong, _ := roster.SetCard(g.Cards, api.Card{User: 63})
	return append(things, last, wrong)
}

// TestR4Memory: what is handed in stays, and no two lists of what was handed in or answered share memory.
func TestR4Memory(t *testing.T) {
	x := dice(4)
	for range 40 {
		g := x.given()
		before := allOf(reflect.ValueOf(g))
		things := []any{g}
		for range 2 {
			things = append(things, g.answers()...)
		}
		apart(t, things...)
		if allOf(reflect.ValueOf(g)) != before {
			t.Fatal("changed what it was given")
		}
	}
}

// TestR4Later: what was answered stays as it was, whatever comes of it behind that.
func TestR4Later(t *testing.T) {
	x := dice(44)
	var all []any
	var told []string
	var l []api.Box
	var c []api.Card
	var at api.Tree
	for range 60 {
		behind := x.tree([]int{1, 2, 3, 4, 9})
		l, at = settle(t, l, at, behind, x.mail()), behind
		c = set(t, c, api.Card{User: x.roll(64), Epoch: x.roll(9), Pub: 1 + x.roll(9)})
		all, told = append(all, l, c), append(told, tell(l), tell(c))
	}
	for i := range all {
		if tell(all[i]) != told[i] {
			t.Fatal(i)
		}
	}
}

// TestR4Kept: boxes and cards stay as they were answered, whatever becomes of what was handed in.
func TestR4Kept(t *testing.T) {
	m := anyMail()[1]
	before := []api.Box{{Device: 5, Mail: anyMail()[:1]}}
	l := settle(t, before, grown(3), grown(3, 4), m)
	m.Commit.Removes[0], m.Commit.Next.Nodes[0].Unmerged[0], m.Face.Tree.Nodes[0].Pub = 99, 99, 99
	before[0].Mail[0].Commit.Adds[0].Pub = 99
	want := []api.Box{{Device: 3, Mail: anyMail()[1:2]}, {Device: 4, Mail: anyMail()[1:2]}, {Device: 5, Mail: anyMail()[:1]}}
	same(t, "kept", l, want)
	l[0].Mail[0].Commit.Removes[0] = 98
	same(t, "its own", l[1:], want[1:])

	given := cards(3)
	got := set(t, given, card(0))
	given[1].Pub = 99
	same(t, "cards", got, append([]api.Card{card(0)}, cards(3)...))
}

// TestR4Empty: empty lists are as none, wherever they stand.
func TestR4Empty(t *testing.T) {
	for _, none := range []int{0, 5} {
		boxes, nodes := make([]api.Box, 0, none), api.Tree{Nodes: make([]api.Node, 0, none)}
		same(t, "Settle", settle(t, boxes, nodes, grown(3), no(1)), []api.Box{with(box(3, 0), no(1))})
		same(t, "Settle", settle(t, boxes, grown(3), nodes, no(1)), []api.Box{out(with(box(3, 0), no(1)))})
		same(t, "Settle", settle(t, boxes, nodes, nodes, no(1)), []api.Box{})
		same(t, "SetCard", set(t, make([]api.Card, 0, none), card(3)), []api.Card{card(3)})
		if c, ok := roster.Card(make([]api.Card, 0, none), 3); ok || c != (api.Card{}) {
			t.Error(c, ok)
		}
		if l, e := roster.Devices(boxes, 3); e != api.OK || len(l) != 0 {
			t.Error(l, e)
		}
	}
	bare := []api.Box{{Device: 3, Mail: make([]api.Mail, 0, 5)}}
	same(t, "no mail", settle(t, bare, grown(3), grown(3), no(1)), []api.Box{with(box(3, 0), no(1))})
}

// TestR5Again: the same is answered each time.
func TestR5Again(t *testing.T) {
	x := dice(5)
	for range 60 {
		g := x.given()
		same(t, "again", g.answers(), g.answers())
	}
}
