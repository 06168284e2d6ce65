/- The contract of SetPath, where it comes off. -/
import Derived.Test.YtcbafeneaoaglaaGreatDoorTrLib2
import Derived.Deep.CutRange
namespace Go.Proofs.YtcbafeneaoaglaaGreatDoor
open Go.RowKit Go.Maps

def setPL (T : List Nd) (l : List (Int × Int)) : List Nd := l.foldl (fun T q => T.set q.1.toNat ⟨q.2, (ndAt T q.1.toNat).mem, (ndAt T q.1.toNat).ep, (ndAt T q.1.toNat).un⟩) T
theorem setP_eq (T : List Nd) (xs ps : List Int) : setP T xs ps = setPL T (xs.zip ps) := rfl
theorem setPL_snoc (T : List Nd) (l : List (Int × Int)) (x p : Int) : setPL T (l ++ [(x, p)]) = (setPL T l).set x.toNat ⟨p, (ndAt (setPL T l) x.toNat).mem, (ndAt (setPL T l) x.toNat).ep, (ndAt (setPL T l) x.toNat).un⟩ := by
  unfold setPL; rw [List.foldl_append]; rfl
theorem setPL_len (T : List Nd) (l : List (Int × Int)) : (setPL T l).length = T.length := by
  unfold setPL
  induction l generalizing T with
  | nil => rfl
  | cons q l ih => rw [List.foldl_cons, ih]; simp
theorem prs_mem {T : List Nd} {i : Nat} {p : Nat × List Int} (h : p ∈ prs T i) : p.1 ∈ upN (nlv T) i ∧ p.2 ≠ [] ∧ ∃ s, (p.1, s) ∈ (upN (nlv T) i).zip (sdN (nlv T) i) ∧ p.2 = rsl T s := by
  unfold prs at h
  rw [List.mem_filter, List.mem_map] at h
  obtain ⟨⟨⟨x, s⟩, hq, rfl⟩, h2⟩ := h
  refine ⟨(List.of_mem_zip hq).1, fun c => ?_, s, hq, rfl⟩
  rw [c] at h2; simp at h2
theorem prs_len (T : List Nd) (i : Nat) : (prs T i).length ≤ (upN (nlv T) i).length := by
  rw [prs_eq]
  refine Nat.le_trans (prsL_len _ _) ?_
  simp; omega
end Go.Proofs.YtcbafeneaoaglaaGreatDoor
