/- TreeTurns, the walk. -/
import Derived.Test.YtaanacnloljlmaaGreatDoorZ16
import Derived.Test.YtaanacnloljlmaaGreatDoorZ12
import Derived.Test.YtaanacnloljlmaaGreatDoorTtE
import Derived.Test.YtaanacnloljlmaaGreatDoorBoPND
import Derived.Test.YtaanacnloljlmaaGreatDoorZ18
namespace Go.Proofs.YtaanacnloljlmaaGreatDoor
open Go.RowKit Go.Maps

theorem alive_end9 {w W : World} (hT : Tab w) (hb : Below w.heap.size w W) : Calls Tryz.prog 21 #[] W fun e w' => e = .returned (.bool true) ∧ Below w.heap.size w w' := (alive8 W (hT.bw hb)).mono (fun _ _ h => ⟨h.1, bw_tr hb h.2⟩)
theorem setRow_new9 (w : World) (cells : Array Value) (t : TypeId) (new : Array Value) : ((w.alloc (.cells cells t)).setRow w.heap.size new).heap[w.heap.size]? = some (.cells new t (0, 0)) := by
  have h := heap_alloc_new w (.cells cells t)
  simp only [World.setRow, Array.getElem?_modify, h]
  simp
theorem setRow_below9 (w : World) (cells : Array Value) (t : TypeId) (new : Array Value) : Below w.heap.size w ((w.alloc (.cells cells t)).setRow w.heap.size new) := by
  have hb : Below w.heap.size w (w.alloc (.cells cells t)) := (Below.refl _ _).alloc (Nat.le_refl _) _
  refine ⟨hb.os, hb.tape, hb.output, by simp [World.setRow], fun k hk => ?_⟩
  rw [← hb.block k hk]
  have hne : ¬ w.heap.size = k := by omega
  simp only [World.setRow, Array.getElem?_modify, if_neg hne]
theorem var_blk {W4 W : World} {cs : Array Value} {t : TypeId} (hW : Below (W4.alloc (.cells cs t)).heap.size (W4.alloc (.cells cs t)) W) : W.heap[W4.heap.size]? = some (.cells cs t (0, 0)) := by
  rw [hW.block _ (by simp)]; exact heap_alloc_new _ _
theorem var_blk2 {w W : World} {cs cs' : Array Value} {t t' : TypeId} (hb : Below ((w.alloc (.cells cs t)).alloc (.cells cs' t')).heap.size ((w.alloc (.cells cs t)).alloc (.cells cs' t')) W) : W.heap[w.heap.size]? = some (.cells cs t (0, 0)) ∧ W.heap[w.heap.size + 1]? = some (.cells cs' t' (0, 0)) := by
  refine ⟨?_, ?_⟩
  · rw [hb.block _ (by simp; omega), Below.heap_alloc _ _ _ (by simp)]; exact heap_alloc_new _ _
  · have := var_blk hb
    simpa using this
theorem addR_bnd (T : List Nd) (m e p : Int) : (addR T m e p).length ≤ 15 ∧ ∀ x ∈ addR T m e p, x.un.length ≤ 8 := by
  unfold addR; split
  · next h => exact ⟨(mayB_15 (mayB_add h)).1, un_len (mayB_add h)⟩
  · simp
theorem remR_bnd (T : List Nd) (m : Int) : (remR T m).length ≤ 15 ∧ ∀ x ∈ remR T m, x.un.length ≤ 8 := by
  unfold remR; split
  · next h =>
    obtain ⟨i, -, -, hr⟩ := rm_of h
    exact ⟨(mayB_15 hr.ok.mayB).1, un_len hr.ok.mayB⟩
  · simp
/-- Where a tree's blocks lie. -/
theorem OTr.lts {B : Nat} {w : World} {v : Value} {T : List Nd} {us : List Value} (h : OTr B w v T us) : (∀ k, v.ownBlock = some k → k < w.heap.size) ∧ ∀ (i : Nat) (u : Value) (k : Nat), us[i]? = some u → u.ownBlock = some k → k < w.heap.size := by
  refine ⟨fun k hk => (World.ownsRow.lt h.row k hk).2, fun i u k hu hk => ?_⟩
  have hi : i < T.length := by have := (List.getElem?_eq_some_iff.1 hu).1; have := h.ul; omega
  exact (World.ownsRow.lt (h.un i T[i] u (List.getElem?_eq_getElem hi) hu) k hk).2
/-- A tree in a variable, made behind B; all of it lies below H. -/
structure Vt (B H : Nat) (W : World) (b : Nat) (v : Value) (T : List Nd) (us : List Value) : Prop where
  blk : W.heap[b]? = some (.cells #[v] 24 (0, 0))
  tr : OTr B W v T us
  lt : ∀ k, v.ownBlock = some k → k < H
  ltu : ∀ (i : Nat) (u : Value) (k : Nat), us[i]? = some u → u.ownBlock = some k → k < H
theorem Vt.cell {B H : Nat} {W : World} {b : Nat} {v : Value} {T : List Nd} {us : List Value} (h : Vt B H W b v T us) : W.cell? ⟨b, 0, none⟩ = some v := cell_of_blk h.blk rfl
theorem Vt.bw {B H : Nat} {W W' : World} {b : Nat} {v : Value} {T : List Nd} {us : List Value} (h : Vt B H W b v T us) (hb : Below W.heap.size W W') : Vt B H W' b v T us :=
  ⟨by rw [hb.block b (lt_of_blk h.blk)]; exact h.blk, h.tr.bw hb, h.lt, h.ltu⟩
theorem Vt.tf {B B' H : Nat} {W W' : World} {b : Nat} {v : Value} {T : List Nd} {us : List Value} (h : Vt B H W b v T us) (ht : Tf [70, 125, 237] B' W W') : Vt B H W' b v T us :=
  ⟨ht.blk h.blk (by decide), h.tr.tf ht (by decide) (by decide), h.lt, h.ltu⟩
theorem Vt.new {B : Nat} {W : World} {v : Value} {T : List Nd} {us : List Value} (h : OTr B W v T us) : Vt B W.heap.size (W.alloc (.cells #[v] 24)) W.heap.size v T us :=
  ⟨heap_alloc_new _ _, h.bw (bwA _ _), h.lts.1, h.lts.2⟩
theorem Vt.trd {B H : Nat} {W : World} {b : Nat} {v : Value} {T : List Nd} {us : List Value} (h : Vt B H W b v T us) (hb : T.length ≤ 15 ∧ ∀ x ∈ T, x.un.length ≤ 8) : Trd W v T :=
  h.tr.trd (by omega) (fun x hx => by have := hb.2 x hx; omega)
theorem Bo.apart {B : Nat} {w : World} {b n H : Nat} {F : Nat → Value} {eN eD : List Ent} {XN XD : Nat → List Value} (h : Bo B w b n H F eN eD XN XD) (hB : B ≤ w.heap.size) (hn : n ≤ 1048576) :
    Calls Tryz.prog 20 #[.pointer (some ⟨b, 0, none⟩)] w fun e w' => e = .returned (.bool true) ∧ Below B w w' :=
  apartApND_b B b (n : Int) F eN XN eD XD w ⟨h.blk, hB, Below.refl _ _, h.nil, h.N, by have := h.lN; omega, fun x hx => by have := h.cN x hx; omega, h.D, by have := h.lD; omega, fun x hx => by have := h.cD x hx; omega⟩ (fun x hx => (h.cN x hx).2.1) (fun x hx => (h.cD x hx).2.1)
end Go.Proofs.YtaanacnloljlmaaGreatDoor
