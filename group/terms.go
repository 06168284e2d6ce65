package group

import (
	"phratry/api"
	"phratry/hold"
	"phratry/term"
)

func public(secret int) api.Term { return api.Term{Kind: api.TmPub, A: secret} }

func sealed(with, inside int) api.Term { return api.Term{Kind: api.TmSeal, A: with, B: inside} }

// sealedPair is two terms, sealed with another one.
func sealedPair(s *term.Store, with, a, b int) (int, api.Errno) {
	inside, e := s.Make(api.Term{Kind: api.TmPair, A: a, B: b})
	if e != api.OK {
		return 0, e
	}
	return s.Make(sealed(with, inside))
}

// opened is what a seal has in it, if a secret opens it.
func opened(s *term.Store, seal, secret int) (int, bool) {
	opener, inside, ok := hold.Seal(s, seal)
	if !ok || opener != secret {
		return 0, false
	}
	return inside, true
}

// openedPair is the two terms that a seal has in it, if a secret opens it.
func openedPair(s *term.Store, seal, secret int) (a, b int, ok bool) {
	inside, ok := opened(s, seal, secret)
	if !ok {
		return 0, 0, false
	}
	both, _ := s.Get(inside)
	if both.Kind != api.TmPair {
		return 0, 0, false
	}
	return both.A, both.B, true
}

// isPub: is a term the public key of a secret?
func isPub(s *term.Store, pub, secret int) bool {
	t, ok := s.Get(pub)
	return ok && t == public(secret)
}
