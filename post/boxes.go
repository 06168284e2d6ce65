package post

import (
	"sort"

	"phratry/api"
	"phratry/fresh"
	"phratry/may"
)

const mostDone = 1 << 40

// mayBe: may boxes be?
func mayBe(l []api.Box) bool {
	for i, b := range l {
		if i > 0 && l[i-1].Device >= b.Device || !may.Device(b.Device) || b.Done < 0 || b.Done > mostDone {
			return false
		}
	}
	return true
}

// find is the place where the box of a device stands, or would stand. The boxes may be: so their Devices rise.
func find(l []api.Box, device int) (at int, there bool) {
	at = sort.Search(len(l), func(i int) bool { return l[i].Device >= device })
	return at, at < len(l) && l[at].Device == device
}

// place is where the box of a device stands, or why there is none.
func place(l []api.Box, device int) (int, api.Errno) {
	if !mayBe(l) {
		return 0, api.ErrArg
	}
	at, there := find(l, device)
	if !there {
		return 0, api.ErrGone
	}
	return at, api.OK
}

// turned is the boxes with that of a device turned by a closure, which is handed a copy: those that came in stay as they were.
func turned(l []api.Box, device int, turn func(*api.Box) api.Errno) ([]api.Box, api.Errno) {
	at, e := place(l, device)
	if e != api.OK {
		return nil, e
	}
	next := fresh.List(l, fresh.Box)
	if e := turn(&next[at]); e != api.OK {
		return nil, e
	}
	return next, api.OK
}
