package path

import (
	"phratry/api"
	"phratry/hold"
	"phratry/term"
)

// afterPath is the secret of a path behind another one.
func afterPath(secret int) api.Term {
	return api.Term{Kind: api.TmKdf, N: api.LbPath, A: secret}
}

// nodeKey is the key of a node, of its path's secret.
func nodeKey(secret int) api.Term {
	return api.Term{Kind: api.TmKdf, N: api.LbNode, A: secret}
}

// isPub: is a term the public key of a secret?
func isPub(s *term.Store, pub, secret int) bool {
	t, ok := s.Get(pub)
	return ok && t == api.Term{Kind: api.TmPub, A: secret}
}

// follows: is a term the secret of a path right behind another one?
func follows(s *term.Store, n, secret int) bool {
	t, ok := s.Get(n)
	return ok && t == afterPath(secret)
}

// origin is the key of which a node's Pub is the public one, and the path's secret of that; 0, 0: it is none such.
func origin(s *term.Store, pub int) (key, secret int) {
	p, _ := s.Get(pub)
	k, _ := s.Get(p.A)
	if p.Kind != api.TmPub || k != nodeKey(k.A) {
		return 0, 0
	}
	return p.A, k.A
}

// secrets is the seed, and so many behind it.
func secrets(put hold.Maker, seed, many int) ([]int, api.Errno) {
	l := []int{seed}
	for range many {
		n, e := put(afterPath(l[len(l)-1]))
		if e != api.OK {
			return nil, e
		}
		l = append(l, n)
	}
	return l, api.OK
}

// keyPair is the key of a node, of its path's secret, and its public key.
func keyPair(put hold.Maker, secret int) ([2]int, api.Errno) {
	key, e := put(nodeKey(secret))
	if e != api.OK {
		return [2]int{}, e
	}
	pub, e := put(api.Term{Kind: api.TmPub, A: key})
	if e != api.OK {
		return [2]int{}, e
	}
	return [2]int{key, pub}, api.OK
}
