package hold

import (
	"phratry/api"
	"phratry/term"
	"phratry/tree"
)

// Tree: is a tree held (chapter 9)? It may be, and its keys are terms.
func Tree(s *term.Store, t api.Tree) bool {
	if tree.Check(t) != api.OK {
		return false
	}
	for _, n := range t.Nodes {
		if n.Pub != 0 && !Has(s, n.Pub) {
			return false
		}
	}
	return true
}

// State: may a state be (chapter 12)?
func State(s *term.Store, st api.State) bool {
	if !Tree(s, st.Tree) || st.Epoch < 0 || st.Leaf < 0 || tree.Find(st.Tree, st.Member) != st.Leaf {
		return false
	}
	for _, k := range st.Keys {
		if !Has(s, k.Secret) {
			return false
		}
	}
	return Has(s, st.Now.Init) && Has(s, st.Now.Outer)
}

// Face: is a face one by which one comes in from outside (P12.3)?
func Face(s *term.Store, f api.Face) bool {
	return Tree(s, f.Tree) && Has(s, f.Pub) && f.Epoch >= 0
}

// Seal is the secret that opens a seal, and what is in it. It is the secret of the public key with which it is sealed, or,
// if it is sealed with no public key, the key itself.
func Seal(s *term.Store, n int) (opener, inside int, ok bool) {
	t, _ := s.Get(n)
	if t.Kind != api.TmSeal {
		return 0, 0, false
	}
	if key, _ := s.Get(t.A); key.Kind == api.TmPub {
		return key.A, t.B, true
	}
	return t.A, t.B, true
}
