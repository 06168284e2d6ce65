package post_test

import (
	"reflect"
	"slices"
	"testing"

	"phratry/api"
	"phratry/post"
)

// span is the memory of a list, its spare room too.
type span struct{ from, to uintptr }

// spans is the memory of all lists in something.
func spans(v reflect.Value) (l []span) {
	switch v.Kind() {
	case reflect.Struct:
		for i := range v.NumField() {
			l = append(l, spans(v.Field(i))...)
		}
	case reflect.Slice:
		whole := v.Slice(0, v.Cap())
		if v.Cap() > 0 {
			from := v.Pointer()
			l = append(l, span{from, from + uintptr(v.Cap())*v.Type().Elem().Size()})
		}
		for i := range whole.Len() {
			l = append(l, spans(whole.Index(i))...)
		}
	}
	return l
}

// apart: do no two lists in these things share memory?
func apart(t *testing.T, things ...any) {
	t.Helper()
	var l []span
	for _, x := range things {
		l = append(l, spans(reflect.ValueOf(x))...)
	}
	slices.SortFunc(l, func(a, b span) int { return int(int64(a.from) - int64(b.from)) })
	for i := 1; i < len(l); i++ {
		if l[i-1].to > l[i].from {
			t.Fatal("memory is shared")
		}
	}
}

// roomy gives each list in something memory of its own, and room to spare that has something in it.
func (x *dice) roomy(v reflect.Value) {
	switch v.Kind() {
	case reflect.Struct:
		for i := range v.NumField() {
			x.roomy(v.Field(i))
		}
	case reflect.Slice:
		long := reflect.MakeSlice(v.Type(), v.Len()+2, v.Len()+2)
		reflect.Copy(long, v)
		for i := v.Len(); i < long.Len(); i++ {
			x.fill(long.Index(i))
		}
		v.Set(long.Slice(0, v.Len()))
		for i := range v.Len() {
			x.roomy(v.Index(i))
		}
	}
}

// allOf tells something with all the room that its lists have.
func allOf(v reflect.Value) string {
	switch v.Kind() {
	case reflect.Struct:
		text := "{"
		for i := range v.NumField() {
			text += allOf(v.Field(i)) + " "
		}
		return text + "}"
	case reflect.Slice:
		text := "["
		for i := range v.Cap() {
			if i == v.Len() {
				text += "| "
			}
			text += allOf(v.Slice(0, v.Cap()).Index(i)) + " "
		}
		return text + "]"
	}
	return tell(v.Interface())
}

// calls are all that answer boxes, of one device that is there and one that is not.
func calls(there, none int, m api.Mail) []turn {
	return []turn{opens(there), opens(none), closes(there), closes(none), puts(there, m), puts(none, m), does(there, 0), does(there, most), does(none, 0)}
}

// TestR4Memory: what is handed in stays, and no two lists of what was handed in or answered share memory.
func TestR4Memory(t *testing.T) {
	x := dice(4)
	for range 60 {
		l, m := x.boxes(), x.mail()
		x.roomy(reflect.ValueOf(&l).Elem())
		x.roomy(reflect.ValueOf(&m).Elem())
		before, given := allOf(reflect.ValueOf(l)), allOf(reflect.ValueOf(m))
		there := l[x.roll(len(l))]
		things := []any{l, m}
		for range 2 {
			for _, call := range calls(there.Device, 20, m) {
				next, _ := call(l)
				things = append(things, next)
			}
			for cursor := -1; cursor <= len(there.Mail)+1; cursor++ {
				got, _ := post.Since(l, there.Device, cursor)
				things = append(things, got)
			}
		}
		apart(t, things...)
		post.Has(l, there.Device)
		if post.Check(l) != api.OK || allOf(reflect.ValueOf(l)) != before || allOf(reflect.ValueOf(m)) != given {
			t.Fatal("changed what it was given")
		}
	}
}

// TestR4Later: boxes that were answered stay as they were, whatever comes to them behind that.
func TestR4Later(t *testing.T) {
	x := dice(44)
	var all [][]api.Box
	var told []string
	l := made(t, made(t, nil, opens(4)), opens(1))
	for range 60 {
		for _, call := range []turn{puts(4, x.mail()), puts(1, x.mail()), does(4, most), opens(x.roll(512))} {
			if next, e := call(l); e == api.OK {
				l = next
			}
		}
		all, told = append(all, l), append(told, tell(l))
	}
	l = made(t, made(t, l, closes(1)), closes(4))
	for i := range all {
		if tell(all[i]) != told[i] {
			t.Fatal(i)
		}
	}
}

// TestR4Kept: what was put stays as it was put, whatever becomes of the mail that was handed in, or read.
func TestR4Kept(t *testing.T) {
	m := anyMail()[1]
	l := made(t, []api.Box{{Device: 3}}, puts(3, m))
	m.Commit.Removes[0], m.Commit.Next.Nodes[0].Unmerged[0], m.Face.Tree.Nodes[0].Pub = 99, 99, 99
	got, _ := post.Since(l, 3, 0)
	same(t, "put", got, anyMail()[1:2])
	got[0].Commit.Adds[0].Pub, got[0].Face.Tree.Nodes[0].Unmerged[1], got[0].Kind = 99, 99, 99
	same(t, "read", l, []api.Box{{Device: 3, Mail: anyMail()[1:2]}})
}

// TestR4Empty: empty lists are as none, wherever they stand.
func TestR4Empty(t *testing.T) {
	for _, none := range [][]api.Box{nil, {}, make([]api.Box, 0, 5)} {
		same(t, "Open", made(t, none, opens(3)), []api.Box{{Device: 3}})
		if there, gone := post.Has(none, 3); there || gone {
			t.Error("none")
		}
	}
	for _, none := range [][]api.Mail{nil, {}, make([]api.Mail, 0, 5)} {
		l := []api.Box{{Device: 3, Mail: none}}
		if got, e := post.Since(l, 3, 0); e != api.OK || len(got) != 0 {
			t.Error(got, e)
		}
		same(t, "Put", made(t, l, puts(3, no(1))), []api.Box{{Device: 3, Mail: []api.Mail{no(1)}}})
		same(t, "Close", made(t, l, closes(3)), []api.Box{{Device: 3, Out: true}})
	}
}

// TestR5Again: the same is answered each time.
func TestR5Again(t *testing.T) {
	x := dice(5)
	for range 100 {
		l, m := x.boxes(), x.mail()
		for i, call := range calls(l[0].Device, 20, m) {
			a, e := call(l)
			b, f := call(l)
			same(t, "again", a, b)
			if e != f {
				t.Error(i, e, f)
			}
		}
	}
}
