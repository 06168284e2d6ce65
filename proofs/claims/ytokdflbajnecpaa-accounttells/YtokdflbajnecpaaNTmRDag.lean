/- The contract of Dag of the document's store. -/
import Derived.Test.YtokdflbajnecpaaNTmPut
namespace Go.Proofs.Ytokdflbajnecpaa.Tn
open Go.RowKit Go.Maps

theorem made_zero (n k : Nat) (h : k < n) : (madeCells (Value.int .i64 0).cells (n * 1)).toList[k]? = some (.int .i64 0) := by
  have hs : (Value.int .i64 0).cells = #[Value.int .i64 0] := rfl
  rw [hs]
  simp [madeCells, h, Nat.mod_one]
theorem Pt.start {w w1 : World} {L : List Tm} (hg : w.grownBy w1 none) (hrow : w1.ownsRow w.heap.size 3 1 (.slice (some ⟨w.heap.size, 0, none⟩) (L.length + 1) (L.length + 1)) (L.length + 1) (madeCells (Value.int .i64 0).cells ((L.length + 1) * 1)).toList) : Pt w w1 L (.slice none 0 0) w.heap.size [] := by
  refine ⟨told_nil L, TmRow.nil _ _, ?_, Nat.le_refl _, ⟨hg.os, hg.tape, hg.output, hg.size, fun k hk => hg.block k hk (by simp)⟩⟩
  rcases hrow.2 with ⟨c, _⟩ | ⟨g, cap, cur, hv, _, hgg, _, _, _, ht⟩
  · cases c
  · cases hv
    refine ⟨cur, hgg, fun k hk => ?_⟩
    have e := made_zero (L.length + 1) k (by omega)
    rw [← ht, List.getElem?_take, if_pos (by omega)] at e
    simpa [pos] using e

end Go.Proofs.Ytokdflbajnecpaa.Tn
