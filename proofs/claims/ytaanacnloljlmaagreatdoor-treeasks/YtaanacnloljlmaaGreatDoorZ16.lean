/- Texts joined: TeG TeH0 TeH TeI. -/
import Derived.Test.YtaanacnloljlmaaGreatDoorTeF
import Derived.Test.YtaanacnloljlmaaGreatDoorZ09
import Derived.Test.YtaanacnloljlmaaGreatDoorTrO
import Derived.Test.YtaanacnloljlmaaGreatDoorZ13
/- The contracts of the document's Add, whatever comes of it, and of New. -/
namespace Go.Proofs.YtaanacnloljlmaaGreatDoor
open Go.RowKit Go.Maps

end Go.Proofs.YtaanacnloljlmaaGreatDoor

/- A tree that is cut shorter; plain facts for the document's Remove. -/
namespace Go.Proofs.YtaanacnloljlmaaGreatDoor
open Go.RowKit Go.Maps

theorem treeC_take {T : List Nd} {us : List Value} (h : us.length = T.length) (k : Nat) : (treeC T us).take (k * 4) = treeC (T.take k) (us.take k) := by
  rcases Nat.lt_or_ge T.length k with c | c
  · rw [List.take_of_length_le (by rw [treeC_len h]; omega), List.take_of_length_le (by omega), List.take_of_length_le (by omega)]
  · have e : treeC T us = treeC (T.take k) (us.take k) ++ treeC (T.drop k) (us.drop k) := by
      rw [← treeC_app (by simp [h]), List.take_append_drop, List.take_append_drop]
    rw [e, List.take_left' (by rw [treeC_len (by simp [h])]; simp; omega)]
/-- A tree of one's own, shorter. -/
theorem OTr.short {B : Nat} {w : World} {g m mc : Nat} {T : List Nd} {us : List Value} (h : OTr B w (.slice (some ⟨g, 0, none⟩) m mc) T us) {k : Nat} (hk : k ≤ m) : OTr B w (.slice (some ⟨g, 0, none⟩) k mc) (T.take k) (us.take k) := by
  have hm := h.len
  have hkl : (T.take k).length = k := by rw [List.length_take]; omega
  refine ⟨by simp [h.ul], ?_, fun i n u hn hu => ?_, fun i j u u' q h1 h2 h3 h4 => ?_⟩
  · rw [hkl]
    refine ⟨by rw [treeC_len (by simp [h.ul]), hkl], ?_⟩
    rcases h.row.2 with ⟨e, _⟩ | ⟨g', cap, cur, e, hB, hg, q1, q2, q3, q4⟩
    · cases e
    · cases e
      refine Or.inr ⟨g, mc, cur, rfl, hB, hg, by omega, q2, q3, ?_⟩
      rw [← treeC_take h.ul k, ← q4, List.take_take, Nat.min_eq_left (by omega)]
  · have hi : i < k := by have := (List.getElem?_eq_some_iff.1 hn).1; omega
    rw [List.getElem?_take_of_lt hi] at hn hu
    exact h.un i n u hn hu
  · have hi : i < k := by have := (List.getElem?_eq_some_iff.1 h1).1; simp at this; omega
    have hj : j < k := by have := (List.getElem?_eq_some_iff.1 h2).1; simp at this; omega
    rw [List.getElem?_take_of_lt hi] at h1
    rw [List.getElem?_take_of_lt hj] at h2
    exact h.apart i j u u' q h1 h2 h3 h4
theorem DX.cut {W0 wr : World} {nb g m mc : Nat} {T : List Nd} {us : List Value} (h : DX W0 wr nb g m mc T us) (hl : W0.heap.size ≤ nb) {k : Nat} (hk : k ≤ m) : DX W0 (wr.setCell ⟨nb, 0, none⟩ (.slice (some ⟨g, 0, none⟩) k mc)) nb g k mc (T.take k) (us.take k) := by
  have hO := h.tr.short hk
  have hno : ∀ q, q ∈ g :: rrB us → q ≠ nb := fun q hq c => h.notin (by rw [← c]; exact hq)
  refine ⟨h.bel.setCell hl _, ⟨hO.ul, own_keep hO.row (fun q hq => Below.heap_setCell _ _ _ _ (by cases hq; simp; exact hno g (by simp))), fun i n u hn hu => own_keep (hO.un i n u hn hu) (fun q hq => Below.heap_setCell _ _ _ _ (by
    simp
    refine hno q (List.mem_cons_of_mem _ (mem_rrB.2 ⟨i, u, ?_, hq⟩))
    have hi : i < k := by have := (List.getElem?_eq_some_iff.1 hu).1; simp at this; omega
    rw [List.getElem?_take_of_lt hi] at hu
    exact hu)), hO.apart⟩, by rw [setCell_blk h.box]; rfl⟩
theorem anyM_take {T : List Nd} {k a n : Nat} (h : 2 * n ≤ k + 1) : anyM (T.take k) a n = anyM T a n := by
  unfold anyM
  have : ∀ (l : List Nat), (∀ x ∈ l, 2 * x < k) → l.any (fun i => decide (a ≤ i) && pos (ndAt (T.take k) (2 * i))) = l.any (fun i => decide (a ≤ i) && pos (ndAt T (2 * i))) := by
    intro l
    induction l with
    | nil => intro _; rfl
    | cons x l ih =>
      intro hx
      rw [List.any_cons, List.any_cons, ih (fun y hy => hx y (List.mem_cons_of_mem _ hy))]
      have hlt := hx x (by simp)
      have e : ndAt (T.take k) (2 * x) = ndAt T (2 * x) := by
        unfold ndAt; rw [List.getD_eq_getElem?_getD, List.getD_eq_getElem?_getD, List.getElem?_take_of_lt hlt]
      rw [e]
  exact this _ (fun x hx => by have := List.mem_range.1 hx; omega)
theorem fit_take {T : List Nd} {m : Nat} (h : m ≤ T.length) : fit m T = T.take m := by
  rw [fit_eq, show m - T.length = 0 by omega]; simp
theorem mems_len8b {T : List Nd} (h : mayB T = true) : (mems T).length ≤ 8 := by
  have h1 : (mems T).length ≤ (lvs T).length := by unfold mems; exact memsOf_len _
  rw [lvs_len] at h1
  have := (mayB_15 h).2
  omega
theorem own_blk {B c : Nat} {w : World} {e : TypeId} {g o m mc : Nat} {n : Nat} {xs : List Value} (h : w.ownsRow B e c (.slice (some ⟨g, o, none⟩) m mc) n xs) : (Value.slice (some ⟨g, o, none⟩) m mc).ownBlock = some g := by
  rcases h.2 with ⟨e, _⟩ | ⟨g', cap, cur, e, _⟩
  · cases e
  · cases e; rfl
end Go.Proofs.YtaanacnloljlmaaGreatDoor

/- The contract of the document's Remove, where it is not refused. -/
namespace Go.Proofs.YtaanacnloljlmaaGreatDoor
open Go.RowKit Go.Maps

end Go.Proofs.YtaanacnloljlmaaGreatDoor

/- The contract of the document's Remove, whatever comes of it. -/
namespace Go.Proofs.YtaanacnloljlmaaGreatDoor
open Go.RowKit Go.Maps

end Go.Proofs.YtaanacnloljlmaaGreatDoor
