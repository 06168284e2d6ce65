// Package hold is what the layers over term share: what a store holds, what may be by that, and how a call makes terms, all that it needs or none.
package hold

import (
	"phratry/api"
	"phratry/term"
)

// Missing: is the store not there?
func Missing(s *term.Store) bool {
	_, e := s.List()
	return e != api.OK
}

// Has: is there a term of that number?
func Has(s *term.Store, n int) bool {
	_, ok := s.Get(n)
	return ok
}

// Maker makes a term, as a store does.
type Maker func(api.Term) (int, api.Errno)

// AllOrNone lets a closure make terms, at most so many; where the store's room
// may be too short for them, only if it is not, for a call with an error leaves
// the store as it was. (One without any room is left so anyhow.)
func AllOrNone[T any](s *term.Store, most int, call func(Maker) (T, api.Errno)) (T, api.Errno) {
	if room := api.MaxTerms - s.Len(); room > 0 && room < most {
		if none, e := call(rehearsal(s)); e != api.OK {
			return none, e
		}
	}
	return call(s.Make)
}

// Whole lets a closure make terms by calls that are handed a store, at most so
// many; where the store's room may be too short for them, it goes through them on
// a copy first, as AllOrNone does aside. (The closure may be called twice.)
func Whole[T any](s *term.Store, most int, call func(*term.Store) (T, api.Errno)) (T, api.Errno) {
	if room := api.MaxTerms - s.Len(); room > 0 && room < most {
		if none, e := call(copied(s)); e != api.OK {
			return none, e
		}
	}
	return call(s)
}

// Careful lets a closure do what Whole does, where it may end in another error, too, when it has made terms: unless it is
// sure that it does not, it is tried on a copy first.
func Careful[T any](s *term.Store, sure bool, most int, call func(*term.Store) (T, api.Errno)) (T, api.Errno) {
	if sure {
		return Whole(s, most, call)
	}
	if none, e := call(copied(s)); e != api.OK {
		return none, e
	}
	return call(s)
}

// copied is a store of its own with the same terms, each of the same number.
func copied(s *term.Store) *term.Store {
	c := term.New()
	for n := 1; n <= s.Len(); n++ {
		t, _ := s.Get(n)
		c.Make(t)
	}
	return c
}

// rehearsal makes terms just as the store would, and leaves it as it is: what it lacks is kept aside.
func rehearsal(s *term.Store) Maker {
	aside := map[api.Term]int{}
	return func(t api.Term) (int, api.Errno) {
		// Parts have lesser numbers than the whole: so those need not be looked at.
		for n := max(t.A, t.B) + 1; n <= s.Len(); n++ {
			if there, _ := s.Get(n); there == t {
				return n, api.OK
			}
		}
		if n, ok := aside[t]; ok {
			return n, api.OK
		}
		n := s.Len() + len(aside) + 1
		if n > api.MaxTerms {
			return 0, api.ErrLimit
		}
		aside[t] = n
		return n, api.OK
	}
}
