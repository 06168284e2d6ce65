package ledger_test

import (
	"reflect"
	"slices"
	"testing"

	"phratry/api"
	"phratry/ledger"
)

// span is the memory of a list, its spare room too.
type span struct{ from, to uintptr }

// spans is the memory of all lists in something.
func spans(v reflect.Value) (l []span) {
	switch v.Kind() {
	case reflect.Struct:
		for i := range v.NumField() {
			l = append(l, spans(v.Field(i))...)
		}
	case reflect.Slice:
		whole := v.Slice(0, v.Cap())
		if v.Cap() > 0 {
			from := v.Pointer()
			l = append(l, span{from, from + uintptr(v.Cap())*v.Type().Elem().Size()})
		}
		for i := range whole.Len() {
			l = append(l, spans(whole.Index(i))...)
		}
	}
	return l
}

// apart: do no two lists in these things share memory?
func apart(t *testing.T, what string, things ...any) {
	t.Helper()
	var l []span
	for _, x := range things {
		l = append(l, spans(reflect.ValueOf(x))...)
	}
	slices.SortFunc(l, func(a, b span) int { return int(int64(a.from) - int64(b.from)) })
	for i := 1; i < len(l); i++ {
		if l[i-1].to > l[i].from {
			t.Fatal(what, "shares memory")
		}
	}
}

// roomy gives each list in something room to spare, filled with noughts that nobody may touch, and memory of its own.
func roomy(v reflect.Value) {
	switch v.Kind() {
	case reflect.Struct:
		for i := range v.NumField() {
			roomy(v.Field(i))
		}
	case reflect.Slice:
		long := reflect.MakeSlice(v.Type(), v.Len(), v.Len()+3)
		reflect.Copy(long, v)
		v.Set(long)
		for i := range v.Len() {
			roomy(v.Index(i))
		}
	}
}

// allOf tells something with all the room that its lists have.
func allOf(v reflect.Value) string {
	switch v.Kind() {
	case reflect.Struct:
		text := "{"
		for i := range v.NumField() {
			text += allOf(v.Field(i)) + " "
		}
		return text + "}"
	case reflect.Slice:
		text := "["
		for i := range v.Cap() {
			if i == v.Len() {
				text += "| "
			}
			text += allOf(v.Slice(0, v.Cap()).Index(i)) + " "
		}
		return text + "]"
	}
	return tell(v.Interface())
}

// TestR4Memory: what is handed in stays, and no two lists of what was handed in or answered share memory.
func TestR4Memory(t *testing.T) {
	x := dice(4)
	for range 300 {
		l := x.logs()
		group := x.roll(8) - 3
		c := x.commit(group, ledger.Len(l, group))
		roomy(reflect.ValueOf(&l).Elem())
		roomy(reflect.ValueOf(&c).Elem())
		before, given := allOf(reflect.ValueOf(l)), allOf(reflect.ValueOf(c))
		things := []any{l, c}
		for range 2 {
			next, e := ledger.Append(l, c)
			if e != api.OK {
				t.Fatal(e)
			}
			last, _ := ledger.Last(l, group)
			things = append(things, next, last)
			for epoch := range ledger.Len(l, group) {
				got, _ := ledger.Get(l, group, epoch)
				who, _ := ledger.Touched(l, group, epoch)
				things = append(things, got, who)
			}
		}
		apart(t, "a call", things...)
		if ledger.Check(l) != api.OK || allOf(reflect.ValueOf(l)) != before || allOf(reflect.ValueOf(c)) != given {
			t.Fatal("changed what it was given")
		}
	}
}

// TestR4Later: logs that were answered stay as they were, whatever comes to them behind that.
func TestR4Later(t *testing.T) {
	x := dice(44)
	var all [][]api.Log
	var told []string
	var l []api.Log
	for range 60 {
		group := x.roll(5)
		l = taken(t, l, x.commit(group, ledger.Len(l, group)))
		all, told = append(all, l), append(told, tell(l))
	}
	for i := range all {
		if tell(all[i]) != told[i] {
			t.Fatal(i)
		}
	}
}

// TestR4Empty: empty lists are as none, wherever they stand.
func TestR4Empty(t *testing.T) {
	c := commit(3, 0, 5, 6)
	d := c
	d.Adds, d.Removes, d.Seals, d.Joins = []api.Add{}, []int{}, []api.Seal{}, []api.Join{}
	d.Next = leaves(5, 6)
	for i := range d.Next.Nodes {
		d.Next.Nodes[i].Unmerged = []int{}
	}
	same(t, "Append", taken(t, []api.Log{}, d), taken(t, nil, c))
	l := []api.Log{{Group: 3, Commits: []api.Commit{d}}}
	if ledger.Check(l) != api.OK || ledger.Len(l, 3) != 1 {
		t.Error(l)
	}
	for _, none := range [][]api.Log{nil, {}, make([]api.Log, 0, 5)} {
		if _, ok := ledger.Touched(none, 3, 0); ok || ledger.Len(none, 3) != 0 {
			t.Error("none")
		}
	}
}

// TestR5Again: the same is answered each time.
func TestR5Again(t *testing.T) {
	x := dice(5)
	for range 100 {
		l := x.logs()
		group := x.roll(8) - 3
		c := x.commit(group, ledger.Len(l, group))
		a, _ := ledger.Append(l, c)
		b, _ := ledger.Append(l, c)
		same(t, "Append", a, b)
	}
}
