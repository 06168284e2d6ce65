package fresh_test

import (
	"fmt"
	"reflect"
	"slices"
	"testing"

	"phratry/api"
	"phratry/fresh"
)

// filled gives each number in something another value, and each list three things.
func filled(v reflect.Value, n *int) {
	*n++
	switch v.Kind() {
	case reflect.Struct:
		for i := range v.NumField() {
			filled(v.Field(i), n)
		}
	case reflect.Slice:
		// Room to spare, so that a copy of the list's head alone would share it.
		v.Set(reflect.MakeSlice(v.Type(), 3, 7))
		for i := range v.Len() {
			filled(v.Index(i), n)
		}
	case reflect.Bool:
		v.SetBool(true)
	case reflect.Uint8:
		v.SetUint(uint64(*n % 250))
	default:
		v.SetInt(int64(*n))
	}
}

// places is where the lists in something begin.
func places(v reflect.Value) (l []uintptr) {
	switch v.Kind() {
	case reflect.Struct:
		for i := range v.NumField() {
			l = append(l, places(v.Field(i))...)
		}
	case reflect.Slice:
		if v.Cap() > 0 {
			l = append(l, v.Pointer())
		}
		for i := range v.Len() {
			l = append(l, places(v.Index(i))...)
		}
	}
	return l
}

// copies: is what a call answers the same, and are all its lists other ones?
func copies[T any](t *testing.T, one func(T) T) {
	t.Helper()
	var x, none T
	n := 0
	filled(reflect.ValueOf(&x).Elem(), &n)
	before := fmt.Sprintf("%+v", x)
	y := one(x)
	if fmt.Sprintf("%+v", y) != before {
		t.Errorf("%+v", y)
	}
	theirs := places(reflect.ValueOf(y))
	if len(theirs) == 0 {
		t.Error("no lists")
	}
	for _, p := range places(reflect.ValueOf(x)) {
		if slices.Contains(theirs, p) {
			t.Errorf("%T: a list is shared", x)
		}
	}
	if !reflect.DeepEqual(one(none), none) {
		t.Errorf("of nothing: %#v", one(none))
	}
}

func TestCopies(t *testing.T) {
	copies(t, fresh.Node)
	copies(t, fresh.Tree)
	copies(t, fresh.Commit)
	copies(t, fresh.Face)
	copies(t, fresh.State)
	copies(t, fresh.Pending)
	copies(t, fresh.Request)
	copies(t, fresh.Device)
	copies(t, fresh.Log)
	copies(t, fresh.Mail)
	copies(t, fresh.Box)
	copies(t, fresh.Feed)
	copies(t, fresh.Packet)
	copies(t, fresh.Early)
	copies(t, fresh.Link)
	copies(t, fresh.Server)
	copies(t, func(l []api.Log) []api.Log { return fresh.List(l, fresh.Log) })
}
