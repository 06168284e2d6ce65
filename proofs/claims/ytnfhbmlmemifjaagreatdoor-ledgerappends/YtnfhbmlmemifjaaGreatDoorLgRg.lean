/- The document's Touched. mkLgRg.py writes it. -/
import Derived.Test.YtnfhbmlmemifjaaGreatDoorLgUn
import Derived.Test.YtnfhbmlmemifjaaGreatDoorLgRe
import Derived.Test.YtnfhbmlmemifjaaGreatDoorZ26
namespace Go.Proofs.YtnfhbmlmemifjaaGreatDoor
open Go.RowKit Go.Maps
theorem cmV_expl {w : World} {c : Cm} {x : Cv} (h : CmR w c x) : ∃ a1 k1 a2 k2 a3 k3 a4 k4 a5 k5, cmV c x = .agg #[.int .i64 c.gr, .int .i64 c.ep, .int .i64 c.dev, .int .i64 c.mem, .int .i64 c.ke, .bool c.ext, .slice a1 c.adds.length k1, .slice a2 c.rem.length k2, .slice a3 c.seals.length k3, .slice a4 c.joins.length k4, .int .i64 c.own, .int .i64 c.ent, .slice a5 c.next.length k5, .int .i64 c.face, .int .i64 c.card] ∧ Trd w (.slice a5 c.next.length k5) c.next := by
  obtain ⟨a1, k1, e1⟩ := h.adds.slice
  obtain ⟨a2, k2, e2⟩ := nums_slice h.rem
  obtain ⟨a3, k3, e3⟩ := h.seals.slice
  obtain ⟨a4, k4, e4⟩ := h.joins.slice
  obtain ⟨a5, k5, e5⟩ := h.next.slice
  exact ⟨a1, k1, a2, k2, a3, k3, a4, k4, a5, k5, by unfold cmV cmC; rw [e1, e2, e3, e4, e5], by rw [← e5]; exact h.next⟩
end Go.Proofs.YtnfhbmlmemifjaaGreatDoor
