package alike_test

import (
	"reflect"
	"testing"

	"phratry/alike"
	"phratry/api"
	"phratry/fresh"
)

// filled gives each number in something another value, and each list two things.
func filled(v reflect.Value, n *int) {
	*n++
	switch v.Kind() {
	case reflect.Struct:
		for i := range v.NumField() {
			filled(v.Field(i), n)
		}
	case reflect.Slice:
		v.Set(reflect.MakeSlice(v.Type(), 2, 2))
		for i := range v.Len() {
			filled(v.Index(i), n)
		}
	case reflect.Bool:
		v.SetBool(true)
	default:
		v.SetInt(int64(*n))
	}
}

// changed turns each field in something, one at a time, and each list into a shorter one and an empty one; see looks at
// it each time.
func changed(v reflect.Value, see func()) {
	switch v.Kind() {
	case reflect.Struct:
		for i := range v.NumField() {
			changed(v.Field(i), see)
		}
	case reflect.Slice:
		for i := range v.Len() {
			changed(v.Index(i), see)
		}
		whole := reflect.ValueOf(v.Interface())
		for many := range whole.Len() {
			v.Set(whole.Slice(0, many))
			see()
		}
		v.Set(whole)
	case reflect.Bool:
		v.SetBool(!v.Bool())
		see()
		v.SetBool(!v.Bool())
	default:
		v.SetInt(v.Int() + 1)
		see()
		v.SetInt(v.Int() - 1)
	}
}

// differs: is something the same as a copy of it, and as nothing that has one field changed?
func differs[T any](t *testing.T, same func(a, b T) bool, copied func(T) T) {
	t.Helper()
	var x, none T
	n := 0
	filled(reflect.ValueOf(&x).Elem(), &n)
	y := copied(x)
	if !same(x, y) || !same(none, none) || same(x, none) || same(none, x) {
		t.Errorf("%T: as they are", x)
	}
	times := 0
	changed(reflect.ValueOf(&y).Elem(), func() {
		times++
		if same(x, y) || same(y, x) {
			t.Errorf("%+v", y)
		}
	})
	if times < 4 || !same(x, y) {
		t.Errorf("%T: %d", x, times)
	}
}

func TestDiffers(t *testing.T) {
	differs(t, alike.Node, fresh.Node)
	differs(t, alike.Tree, fresh.Tree)
	differs(t, alike.Commit, fresh.Commit)
}

// TestEmpty: empty lists are as none.
func TestEmpty(t *testing.T) {
	none := api.Commit{Next: api.Tree{Nodes: []api.Node{{}}}}
	empty := api.Commit{
		Adds: []api.Add{}, Removes: []int{}, Seals: []api.Seal{}, Joins: []api.Join{},
		Next: api.Tree{Nodes: []api.Node{{Unmerged: []int{}}}},
	}
	if !alike.Commit(none, empty) || !alike.Commit(empty, none) {
		t.Error("a commit")
	}
	if !alike.Tree(api.Tree{}, api.Tree{Nodes: []api.Node{}}) {
		t.Error("a tree")
	}
}
