/- What was acknowledged is dropped (acknowledge). -/
import Derived.Test.YtndgdpefoidfbaaQuDl
import Derived.Test.YtndgdpefoidfbaaZ28
import Derived.Test.YtndgdpefoidfbaaZ27
namespace Go.Proofs.Ytndgdpefoidfbaa
open Go.RowKit Go.Maps
theorem cellK_drop {α ξ : Type} {K : EK α ξ} {l : List α} {xs : List ξ} (hl : xs.length = l.length) {m : Nat} (hm : m ≤ l.length) : (cellK K l xs).drop (m * K.c) = cellK K (l.drop m) (xs.drop m) := by
  have e1 : cellK K l xs = cellK K (l.take m) (xs.take m) ++ cellK K (l.drop m) (xs.drop m) := by
    have h := List.zipWith_append (f := K.C) (l₁ := l.take m) (l₂ := xs.take m) (l₁' := l.drop m) (l₂' := xs.drop m) (by simp [hl])
    rw [List.take_append_drop, List.take_append_drop] at h
    unfold cellK rowsK
    rw [h]
    simp
  have e2 : (cellK K (l.take m) (xs.take m)).length = m * K.c := by
    rw [cellK_len (by simp [hl])]
    simp [Nat.min_eq_left hm]
  rw [e1, ← e2, List.drop_left]
end Go.Proofs.Ytndgdpefoidfbaa
