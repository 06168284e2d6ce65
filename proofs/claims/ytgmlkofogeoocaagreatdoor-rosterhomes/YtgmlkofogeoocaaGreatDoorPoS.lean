/- SameFace, SameMail, SameMails, SameBox of equal ones. -/
import Derived.Test.YtgmlkofogeoocaaGreatDoorZ15
import Derived.Test.YtgmlkofogeoocaaGreatDoorZ18
import Derived.Deep.MidRow
namespace Go.Proofs.YtgmlkofogeoocaaGreatDoor
open Go.RowKit Go.Maps
theorem infoMlS : (Tryz.prog.info? 50).map (·.size) = some 30 := by kernel_rfl
theorem blk_rng {W : World} {b : Nat} {cs : List Value} {t : TypeId} (h : W.heap[b]? = some (.cells cs.toArray t (0, 0))) {o : Nat} {ds : List Value} (hd : ∀ j u, ds[j]? = some u → cs[o + j]? = some u) : W.rangeAt b o ds := fun j u hj => blk_c h (by rw [List.getElem?_toArray]; exact hd j u hj)
end Go.Proofs.YtgmlkofogeoocaaGreatDoor
