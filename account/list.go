package account

import (
	"phratry/api"
	"phratry/term"
)

// list is terms one behind the other, as they are put together. The first error
// is kept, so that who puts several things in need ask for it but once.
type list struct {
	store *term.Store
	items []int
	e     api.Errno
}

// terms puts terms that are there behind the others.
func (l *list) terms(terms ...int) { l.items = append(l.items, terms...) }

// data puts public terms of numbers behind the others.
func (l *list) data(numbers ...int) {
	for _, n := range numbers {
		if l.e != api.OK {
			return
		}
		var item int
		item, l.e = l.store.Data(int64(n))
		l.terms(item)
	}
}

// whole is the list as one term.
func (l *list) whole() (int, api.Errno) {
	if l.e != api.OK {
		return 0, l.e
	}
	return l.store.List(l.items...)
}
