package hold

import (
	"phratry/api"
	"phratry/term"
)

// Aside is a store beside another one, in which something is worked out to be held against what stands there: so what
// is wrong leaves nothing behind. What it is worked out of has stand-ins: each a random term with the number that it has
// in that store.
type Aside struct{ Terms *term.Store }

func NewAside() Aside { return Aside{term.New()} }

// StandIn is for the term of a number; 0, if there can be none of that.
func (a Aside) StandIn(n int) int {
	x, _ := a.Terms.Make(api.Term{Kind: api.TmRand, N: int64(n)})
	return x
}

// Means: is a term aside, or none, what another one is in the store beside?
func (a Aside) Means(x int, s *term.Store, y int) bool {
	if x == 0 || y == 0 {
		return x == y
	}
	t, _ := a.Terms.Get(x)
	if t.Kind == api.TmRand {
		return t.N == int64(y)
	}
	other, _ := s.Get(y)
	return t.Kind == other.Kind && t.N == other.N && a.Means(t.A, s, other.A) && a.Means(t.B, s, other.B)
}
