package group

import (
	"phratry/api"
	"phratry/hold"
	"phratry/term"
)

// planMayBe leaves Entry out: what that may be hangs on the call.
func planMayBe(s *term.Store, p Plan) bool {
	if !hold.Has(s, p.Seed) || p.Own != 0 && !hold.Has(s, p.Own) || p.KeyEpoch < 0 {
		return false
	}
	if len(p.Adds) > api.MaxLeaves || len(p.Removes) > api.MaxLeaves {
		return false
	}
	for _, a := range p.Adds {
		if !hold.Has(s, a.Pub) || a.Epoch < 0 {
			return false
		}
	}
	return true
}

// hasOthers: is anybody but the maker to come in or go out?
func hasOthers(p Plan) bool { return len(p.Adds) > 0 || len(p.Removes) > 0 }

func commitMayBe(s *term.Store, c api.Commit) bool {
	return hold.Tree(s, c.Next) && hold.Has(s, c.Face) && c.Epoch >= 0
}
