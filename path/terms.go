package path

import (
	"slices"

	"phratry/api"
	"phratry/term"
)

// missing: is the store not there?
func missing(s *term.Store) bool {
	_, e := s.List()
	return e != api.OK
}

// has: is there a term of that number?
func has(s *term.Store, n int) bool {
	_, ok := s.Get(n)
	return ok
}

// afterPath is the secret of a path behind another one.
func afterPath(secret int) api.Term {
	return api.Term{Kind: api.TmKdf, N: api.LbPath, A: secret}
}

// nodeKey is the key of a node, of its path's secret.
func nodeKey(secret int) api.Term {
	return api.Term{Kind: api.TmKdf, N: api.LbNode, A: secret}
}

// isPub: is a term the public key of a secret?
func isPub(s *term.Store, pub, secret int) bool {
	t, ok := s.Get(pub)
	return ok && t == api.Term{Kind: api.TmPub, A: secret}
}

// follows: is a term the secret of a path right behind another one?
func follows(s *term.Store, n, secret int) bool {
	t, ok := s.Get(n)
	return ok && t == afterPath(secret)
}

// origin is the key of which a node's Pub is the public one, and the path's secret of that; 0, 0: it is none such.
func origin(s *term.Store, pub int) (key, secret int) {
	p, _ := s.Get(pub)
	k, _ := s.Get(p.A)
	if p.Kind != api.TmPub || k != nodeKey(k.A) {
		return 0, 0
	}
	return p.A, k.A
}

// maker makes a term, as a store does.
type maker func(api.Term) (int, api.Errno)

// secrets is the seed, and so many behind it.
func secrets(put maker, seed, many int) ([]int, api.Errno) {
	l := []int{seed}
	for range many {
		n, e := put(afterPath(l[len(l)-1]))
		if e != api.OK {
			return nil, e
		}
		l = append(l, n)
	}
	return l, api.OK
}

// keyPair is the key of a node, of its path's secret, and its public key.
func keyPair(put maker, secret int) ([2]int, api.Errno) {
	key, e := put(nodeKey(secret))
	if e != api.OK {
		return [2]int{}, e
	}
	pub, e := put(api.Term{Kind: api.TmPub, A: key})
	if e != api.OK {
		return [2]int{}, e
	}
	return [2]int{key, pub}, api.OK
}

// mostMade: no call of this package makes so many terms.
const mostMade = 64

// allOrNone lets a closure make terms; where the store's room is short, only if
// there is enough, for a call with an error leaves the store as it was. (One
// without any room is left so anyhow.)
func allOrNone[T any](s *term.Store, call func(maker) (T, api.Errno)) (T, api.Errno) {
	if room := api.MaxTerms - s.Len(); room > 0 && room < mostMade {
		if none, e := call(rehearsal(s)); e != api.OK {
			return none, e
		}
	}
	return call(s.Make)
}

// rehearsal makes terms just as the store would, and leaves it as it is: what it lacks is kept aside.
func rehearsal(s *term.Store) maker {
	var aside []api.Term
	return func(t api.Term) (int, api.Errno) {
		for n := max(t.A, t.B) + 1; n <= s.Len(); n++ {
			if there, _ := s.Get(n); there == t {
				return n, api.OK
			}
		}
		at := slices.Index(aside, t)
		if at < 0 {
			at = len(aside)
			if s.Len()+at >= api.MaxTerms {
				return 0, api.ErrLimit
			}
			aside = append(aside, t)
		}
		return s.Len() + 1 + at, api.OK
	}
}
