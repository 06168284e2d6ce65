/- Texts joined: TrK0 TrK TrL0 TrL1. -/
import Derived.Shelf.Spec.SlicesInsert
import Derived.Shelf.Spec.SlicesInsertGrow
import Derived.Laws.AppendOwn
import Derived.Test.YtndgdpefoidfbaaZ08
/- The library's slices.Insert at []int: one number comes into a row of one's own. -/
namespace Go.Proofs.Ytndgdpefoidfbaa
open Go.Shelf Go.RowKit Go.Maps
-- Lays2.n21: no function slices.Insert[[]int,int]
end Go.Proofs.Ytndgdpefoidfbaa

/- The contract of addUnmerged, on a node of a tree of one's own. -/
namespace Go.Proofs.Ytndgdpefoidfbaa
open Go.Shelf Go.RowKit Go.Maps
end Go.Proofs.Ytndgdpefoidfbaa

/- A tree of one's own in a variable: what steps leave of it. Plain facts of trees that change. No walk is in this text. -/
namespace Go.Proofs.Ytndgdpefoidfbaa
open Go.RowKit Go.Maps
theorem OTr.len {B : Nat} {w : World} {g m c : Nat} {T : List Nd} {us : List Value} (h : OTr B w (.slice (some ⟨g, 0, none⟩) m c) T us) : m = T.length := by
  obtain ⟨a, c', e⟩ := own_slice h.row
  cases e; rfl
end Go.Proofs.Ytndgdpefoidfbaa

/- Plain facts of a tree to which someone comes. -/
namespace Go.Proofs.Ytndgdpefoidfbaa
open Go.RowKit Go.Maps
end Go.Proofs.Ytndgdpefoidfbaa
