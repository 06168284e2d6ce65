package group

import (
	"phratry/api"
	"phratry/hold"
	"phratry/term"
	"phratry/tree"
)

// planMayBe leaves Entry out: what that may be hangs on the call.
func planMayBe(s *term.Store, p Plan) bool {
	if !hold.Has(s, p.Seed) || p.Own != 0 && !hold.Has(s, p.Own) || p.KeyEpoch < 0 {
		return false
	}
	if len(p.Adds) > api.MaxLeaves || len(p.Removes) > api.MaxLeaves {
		return false
	}
	for _, a := range p.Adds {
		if !hold.Has(s, a.Pub) || a.Epoch < 0 {
			return false
		}
	}
	return true
}

// hasOthers: is anybody but the maker to come in or go out?
func hasOthers(p Plan) bool { return len(p.Adds) > 0 || len(p.Removes) > 0 }

func stateMayBe(s *term.Store, st api.State) bool {
	if !hold.Tree(s, st.Tree) || st.Epoch < 0 || st.Leaf < 0 || tree.Find(st.Tree, st.Member) != st.Leaf {
		return false
	}
	for _, k := range st.Keys {
		if !hold.Has(s, k.Secret) {
			return false
		}
	}
	return hold.Has(s, st.Now.Init) && hold.Has(s, st.Now.Outer)
}

func commitMayBe(s *term.Store, c api.Commit) bool {
	return hold.Tree(s, c.Next) && hold.Has(s, c.Face) && c.Epoch >= 0
}
