/- The contract of sched.secrets. -/
import Derived.Test.YtokdflbajnecpaaScA
namespace Go.Proofs.Ytokdflbajnecpaa.Tn
open Go.RowKit Go.Maps

/-- The keys of an epoch's secret, in their order. -/
def s5 (L : List Tm) (E : Int) : List Tm := mkL L ⟨4, 5, E, 0⟩
def s6 (L : List Tm) (E : Int) : List Tm := mkL (s5 L E) ⟨4, 6, E, 0⟩
def s7 (L : List Tm) (E : Int) : List Tm := mkL (s6 L E) ⟨4, 7, E, 0⟩
def s8 (L : List Tm) (E : Int) : List Tm := mkL (s7 L E) ⟨4, 8, E, 0⟩
/-- An epoch's secrets: the terms then, and the six numbers. -/
def secE (L : List Tm) (j c : Int) : Nat := mkN L ⟨4, 4, j, c⟩
def secL (L : List Tm) (j c : Int) : List Tm := s8 (mkL L ⟨4, 4, j, c⟩) (secE L j c)
def secV (L : List Tm) (j c : Int) : List Int :=
  [j, (secE L j c : Nat), (mkN (mkL L ⟨4, 4, j, c⟩) ⟨4, 5, (secE L j c : Nat), 0⟩ : Nat), (mkN (s5 (mkL L ⟨4, 4, j, c⟩) (secE L j c)) ⟨4, 6, (secE L j c : Nat), 0⟩ : Nat),
    (mkN (s6 (mkL L ⟨4, 4, j, c⟩) (secE L j c)) ⟨4, 7, (secE L j c : Nat), 0⟩ : Nat), (mkN (s7 (mkL L ⟨4, 4, j, c⟩) (secE L j c)) ⟨4, 8, (secE L j c : Nat), 0⟩ : Nat)]
def secA (l : List Int) : Value := .agg (l.map fun z => Value.int .i64 z).toArray
theorem St.notin {w : World} {b : Nat} {sv : Value} {mb : Nat} {L : List Tm} {k : Nat} {cs : Array Value} {t : TypeId} (h : St w b sv mb L) (hk : w.heap[k]? = some (.cells cs t (0, 0))) (h1 : t ≠ 101) (h2 : t ≠ 55) : k ∉ foot b sv mb := by
  intro c
  rcases mem_foot.1 c with rfl | rfl | c
  · rw [h.blk] at hk; injection hk with hk; injection hk with _ hk; exact h1 hk.symm
  · obtain ⟨es, cl, e⟩ := h.map.block; rw [e] at hk; cases hk
  · obtain ⟨cur, e⟩ := h.row.block c; rw [e] at hk; injection hk with hk; injection hk with _ hk; exact h2 hk.symm
theorem kept_blk {w w' : World} {k : Nat} {o : Obj} (h : w.heap[k]? = some o) (hb : Below w.heap.size w w') : w'.heap[k]? = some o := by rw [hb.block k (lt_of_blk h)]; exact h
theorem kept_fr {w w' : World} {b : Nat} {sv : Value} {mb : Nat} {L : List Tm} {k : Nat} {cs : Array Value} {t : TypeId} (h : w.heap[k]? = some (.cells cs t (0, 0))) (hs : St w b sv mb L) (hf : Fr (foot b sv mb) w w') (h1 : t ≠ 101) (h2 : t ≠ 55) : w'.heap[k]? = some (.cells cs t (0, 0)) := by rw [hf.block k (lt_of_blk h) (hs.notin h h1 h2)]; exact h
theorem SStep.poke {w W : World} {b : Nat} {sv sv' : Value} {mb : Nat} {L : List Tm} {k i : Nat} {cs : Array Value} {t : TypeId} (h : SStep w W b sv sv' mb L) (hk : W.heap[k]? = some (.cells cs t (0, 0))) (h1 : t ≠ 101) (h2 : t ≠ 55) (hw : w.heap.size ≤ k) (v : Value) : SStep w (W.setCell ⟨k, i, none⟩ v) b sv sv' mb L :=
  ⟨h.st.keep (S := [k]) ((Fr.refl _ _).setCell (a := ⟨k, i, none⟩) (Or.inr (by simp)) v) (fun x hx c => by simp at c; subst c; exact h.st.notin hk h1 h2 hx), h.fr.setCell (a := ⟨k, i, none⟩) (Or.inl hw) v, h.place⟩
theorem poke_blk {W : World} {k i : Nat} {cs : Array Value} {t : TypeId} (hk : W.heap[k]? = some (.cells cs t (0, 0))) (v : Value) : (W.setCell ⟨k, i, none⟩ v).heap[k]? = some (.cells (cs.setIfInBounds i v) t (0, 0)) := by
  simp [World.setCell, Array.getElem?_modify, hk]
theorem poke_other {W : World} {k i j : Nat} {o : Obj} (hk : W.heap[k]? = some o) (v : Value) (hj : j ≠ k) : (W.setCell ⟨j, i, none⟩ v).heap[k]? = some o := by
  rw [Below.heap_setCell _ _ _ _ (by simp; exact fun c => hj c.symm)]; exact hk
theorem row_blk {W : World} {k : Nat} {cs : Array Value} {t : TypeId} (hk : W.heap[k]? = some (.cells cs t (0, 0))) (new : Array Value) : (W.setRow k new).heap[k]? = some (.cells new t (0, 0)) := by
  simp only [World.setRow, Array.getElem?_modify, hk]
  simp
theorem row_other {W : World} {k j : Nat} (new : Array Value) (hj : j ≠ k) : (W.setRow j new).heap[k]? = W.heap[k]? := by
  simp only [World.setRow, Array.getElem?_modify, if_neg hj]
theorem SStep.row {w W : World} {b : Nat} {sv sv' : Value} {mb : Nat} {L : List Tm} {k : Nat} {cs : Array Value} {t : TypeId} (h : SStep w W b sv sv' mb L) (hk : W.heap[k]? = some (.cells cs t (0, 0))) (h1 : t ≠ 101) (h2 : t ≠ 55) (hw : w.heap.size ≤ k) (new : Array Value) : SStep w (W.setRow k new) b sv sv' mb L := by
  have hs : (W.setRow k new).heap.size = W.heap.size := by simp [World.setRow]
  have f1 : Fr [k] W (W.setRow k new) := ⟨rfl, rfl, rfl, by rw [hs]; exact Nat.le_refl _, fun x _ hx => row_other new (fun c => hx (by simp [c]))⟩
  refine ⟨h.st.keep f1 (fun x hx c => by simp at c; subst c; exact h.st.notin hk h1 h2 hx), ?_, h.place⟩
  exact h.fr.trans f1 (fun _ _ c => c) (fun x hx c => by simp at c; omega)
theorem blk_cell {W : World} {k i : Nat} {cs : Array Value} {t : TypeId} {v : Value} (hk : W.heap[k]? = some (.cells cs t (0, 0))) (h : cs[i]? = some v) : W.cell? ⟨k, i, none⟩ = some v := by
  simp [World.cell?, hk, h]
theorem blk_froz {W : World} {k i : Nat} {cs : Array Value} {t : TypeId} (hk : W.heap[k]? = some (.cells cs t (0, 0))) : W.frozen? ⟨k, i, none⟩ = false := by
  simp [World.frozen?, hk]
theorem SStep.six {w W : World} {b : Nat} {sv sv' : Value} {mb : Nat} {L : List Tm} {k : Nat} {a0 a1 a2 a3 a4 a5 : Value} {t : TypeId} (h : SStep w W b sv sv' mb L) (hk : W.heap[k]? = some (.cells #[a0, a1, a2, a3, a4, a5] t (0, 0))) (h1 : t ≠ 101) (h2 : t ≠ 55) (hw : w.heap.size ≤ k) (v0 v1 v2 v3 v4 v5 : Value) :
    SStep w ((((((W.setCell ⟨k, 0, none⟩ v0).setCell ⟨k, 1, none⟩ v1).setCell ⟨k, 2, none⟩ v2).setCell ⟨k, 3, none⟩ v3).setCell ⟨k, 4, none⟩ v4).setCell ⟨k, 5, none⟩ v5) b sv sv' mb L ∧ ((((((W.setCell ⟨k, 0, none⟩ v0).setCell ⟨k, 1, none⟩ v1).setCell ⟨k, 2, none⟩ v2).setCell ⟨k, 3, none⟩ v3).setCell ⟨k, 4, none⟩ v4).setCell ⟨k, 5, none⟩ v5).heap[k]? = some (.cells #[v0, v1, v2, v3, v4, v5] t (0, 0)) := by
  have e0 := poke_blk (i := 0) hk v0
  have e1 := poke_blk (i := 1) e0 v1
  have e2 := poke_blk (i := 2) e1 v2
  have e3 := poke_blk (i := 3) e2 v3
  have e4 := poke_blk (i := 4) e3 v4
  have e5 := poke_blk (i := 5) e4 v5
  exact ⟨(((((h.poke hk h1 h2 hw v0).poke e0 h1 h2 hw v1).poke e1 h1 h2 hw v2).poke e2 h1 h2 hw v3).poke e3 h1 h2 hw v4).poke e4 h1 h2 hw v5, e5⟩
theorem may_kdf {N : Nat} {l s c : Int} (hl : 0 ≤ l) (hs : thr N s = true) (hc : c = 0 ∨ thr N c = true) : may N ⟨4, l, s, c⟩ = true := by
  unfold may
  simp [hl, hs]
  exact hc
theorem ok_kdf {l s c : Int} (h : 0 ≤ l ∧ l ≤ 100 ∧ 0 ≤ s ∧ s ≤ 1048577 ∧ 0 ≤ c ∧ c ≤ 1048577) : Tm.ok ⟨4, l, s, c⟩ := by
  constructor <;> simp <;> omega
theorem thr_rng {N : Nat} {x : Int} (h : thr N x = true) (hN : N ≤ 1048576) : 0 ≤ x ∧ x ≤ 1048577 := by have := thr_iff.1 h; omega
end Go.Proofs.Ytokdflbajnecpaa.Tn
