/- The document's disk in memory. No walk is in this text. -/
import Derived.Test.YtimhjheigejjmaaDkEnvB
import Derived.Test.YtimhjheigejjmaaDkN
namespace Go.Proofs.Ytimhjheigejjmaa
open Go.RowKit Go.Maps

def waC (p : Nat × ByteArray) : List Value := [.int .i64 (p.1 : Int), .string p.2]
def WRow (w : World) (v : Value) (l : List (Nat × ByteArray)) : Prop := w.ownsRow 0 43 2 v l.length (l.flatMap waC)
theorem wa_get (l : List (Nat × ByteArray)) (i : Nat) (p : Nat × ByteArray) (h : l[i]? = some p) : (l.flatMap waC)[i * 2]? = some (.int .i64 (p.1 : Int)) ∧ (l.flatMap waC)[i * 2 + 1]? = some (.string p.2) := by
  induction l generalizing i with
  | nil => simp at h
  | cons u l ih =>
    cases i with
    | zero => simp at h; subst h; simp [waC]
    | succ i =>
      have := ih i (by simpa using h)
      have e1 : (i + 1) * 2 = i * 2 + 2 := by omega
      have e2 : (i + 1) * 2 + 1 = i * 2 + 1 + 2 := by omega
      rw [e2, e1]
      simpa [List.flatMap_cons, waC] using this
theorem WRow.cell {w : World} {v : Value} {l : List (Nat × ByteArray)} (h : WRow w v l) {i : Nat} {p : Nat × ByteArray} (hi : l[i]? = some p) : ∃ g cap, v = .slice (some ⟨g, 0, none⟩) l.length cap ∧ v.ownBlock = some g ∧ w.cell? ⟨g, i * 2, none⟩ = some (.int .i64 (p.1 : Int)) ∧ w.cell? ⟨g, i * 2 + 1, none⟩ = some (.string p.2) ∧ l.length ≤ cap := by
  have hl : 0 < l.length := by have := (List.getElem?_eq_some_iff.1 hi).1; omega
  obtain ⟨g, cap, hv, _, hc, _⟩ := own_open h hl
  exact ⟨g, cap, hv, by rw [hv]; rfl, own_cell h (by rw [hv]; rfl) (wa_get l i p hi).1, own_cell h (by rw [hv]; rfl) (wa_get l i p hi).2, hc⟩

def lft (S : DS) : Int := match S.cut with
  | none => -1
  | some (n, _) => (n : Int)
structure Rk (w : World) (p : Nat) (dv sv : Value) (bt : Int) (S : DS) : Prop where
  blk : w.heap[p]? = some (.cells #[dv, sv, .bool (!S.up), .int .i64 (lft S), .int .i64 bt, .int .i64 (S.cnt : Int)] 38 (0, 0))
  done : SRow w dv ((List.range S.N).map S.base)
  row : WRow w sv S.since
  cut : ∀ n b, S.cut = some (n, b) → bt = b ∧ (n : Int) ≤ 9223372036854775807
  ok : S.ok
  dn : S.up = false → S.cut = none
def rfoot (p : Nat) (dv sv : Value) : List Nat := p :: (dv.ownBlock.toList ++ sv.ownBlock.toList)
theorem mem_rfoot {p x : Nat} {dv sv : Value} : x ∈ rfoot p dv sv ↔ x = p ∨ dv.ownBlock = some x ∨ sv.ownBlock = some x := by
  unfold rfoot; simp [eq_comm]
theorem Rk.lt {w : World} {p : Nat} {dv sv : Value} {bt : Int} {S : DS} (h : Rk w p dv sv bt S) : ∀ x ∈ rfoot p dv sv, x < w.heap.size := by
  intro x hx
  rcases mem_rfoot.1 hx with rfl | hx | hx
  · exact lt_of_blk h.blk
  · exact (World.ownsRow.lt h.done x hx).2
  · exact (World.ownsRow.lt h.row x hx).2
theorem Rk.apart {w : World} {p : Nat} {dv sv : Value} {bt : Int} {S : DS} (h : Rk w p dv sv bt S) : dv.ownBlock ≠ some p ∧ sv.ownBlock ≠ some p ∧ ∀ k, dv.ownBlock = some k → sv.ownBlock ≠ some k :=
  ⟨own_block_ne h.done h.blk (by decide), own_block_ne h.row h.blk (by decide), fun _ hk => own_apart h.done h.row (by decide) hk⟩
theorem Rk.keep {w w' : World} {p : Nat} {dv sv : Value} {bt : Int} {S : DS} {T : List Nat} (h : Rk w p dv sv bt S) (hf : Fr T w w') (hd : ∀ x ∈ rfoot p dv sv, x ∉ T) : Rk w' p dv sv bt S := by
  have hb : ∀ x ∈ rfoot p dv sv, w'.heap[x]? = w.heap[x]? := fun x hx => hf.block x (h.lt x hx) (hd x hx)
  exact ⟨by rw [hb p (mem_rfoot.2 (Or.inl rfl))]; exact h.blk, own_keep h.done (fun k hk => hb k (mem_rfoot.2 (Or.inr (Or.inl hk)))), own_keep h.row (fun k hk => hb k (mem_rfoot.2 (Or.inr (Or.inr hk)))), h.cut, h.ok, h.dn⟩
theorem Rk.cells {w : World} {p : Nat} {dv sv : Value} {bt : Int} {S : DS} (h : Rk w p dv sv bt S) :
    w.cell? ⟨p, 0, none⟩ = some dv ∧ w.cell? ⟨p, 1, none⟩ = some sv ∧ w.cell? ⟨p, 2, none⟩ = some (.bool (!S.up)) ∧ w.cell? ⟨p, 3, none⟩ = some (.int .i64 (lft S)) ∧ w.cell? ⟨p, 4, none⟩ = some (.int .i64 bt) ∧ w.cell? ⟨p, 5, none⟩ = some (.int .i64 (S.cnt : Int)) ∧ ∀ j, w.frozen? ⟨p, j, none⟩ = false := by
  refine ⟨?_, ?_, ?_, ?_, ?_, ?_, fun j => ?_⟩ <;> simp [World.cell?, World.frozen?, h.blk]
/-- Cells of the struct are changed: the rows stay. -/
theorem Rk.upd {w w' : World} {p : Nat} {dv sv : Value} {bt bt' : Int} {S S' : DS} (h : Rk w p dv sv bt S) (hb : w'.heap[p]? = some (.cells #[dv, sv, .bool (!S'.up), .int .i64 (lft S'), .int .i64 bt', .int .i64 (S'.cnt : Int)] 38 (0, 0))) (hk : ∀ k, k ≠ p → w'.heap[k]? = w.heap[k]?)
    (e1 : S'.N = S.N) (e2 : S'.base = S.base) (e3 : S'.since = S.since) (e4 : ∀ n b, S'.cut = some (n, b) → bt' = b ∧ (n : Int) ≤ 9223372036854775807) (e5 : S'.ok) (e6 : S'.up = false → S'.cut = none) : Rk w' p dv sv bt' S' := by
  refine ⟨hb, ?_, ?_, e4, e5, e6⟩
  · rw [e1, e2]; exact own_keep h.done (fun k hk' => hk k (fun c => h.apart.1 (by rw [hk', c])))
  · rw [e3]; exact own_keep h.row (fun k hk' => hk k (fun c => h.apart.2.1 (by rw [hk', c])))
def RkS (w : World) (p : Nat) (S : DS) (Z : List Nat) : Prop := ∃ dv sv bt, Z = rfoot p dv sv ∧ Rk w p dv sv bt S
theorem RkS.keep {w w' : World} {p : Nat} {S : DS} {Z T : List Nat} (h : RkS w p S Z) (hf : Fr T w w') (hd : ∀ x ∈ Z, x ∉ T) : RkS w' p S Z := by
  obtain ⟨dv, sv, bt, rfl, h1⟩ := h
  exact ⟨dv, sv, bt, rfl, h1.keep hf hd⟩
theorem RkS.lt {w : World} {p : Nat} {S : DS} {Z : List Nat} (h : RkS w p S Z) : ∀ x ∈ Z, x < w.heap.size := by
  obtain ⟨dv, sv, bt, rfl, h1⟩ := h
  exact h1.lt
theorem RkS.bw {w w' : World} {p : Nat} {S : DS} {Z : List Nat} (h : RkS w p S Z) (hb : Below w.heap.size w w') : RkS w' p S Z := h.keep (Fr.ofBelow hb) (by simp)
theorem RkS.ok {w : World} {p : Nat} {S : DS} {Z : List Nat} (h : RkS w p S Z) : S.ok := by obtain ⟨dv, sv, bt, rfl, h1⟩ := h; exact h1.ok
def resQ (p : Nat) (S : DS) (Z : List Nat) : Res := ⟨Z, fun w => RkS w p S Z, fun _ _ _ h hf hd => h.keep hf hd, fun _ h => h.lt⟩
/-- A step of the document's disk. -/
def Stp (w w' : World) (p : Nat) (S' : DS) (Z : List Nat) : Prop := ∃ Z', RkS w' p S' Z' ∧ Mv w w' Z Z'
theorem Stp.same {w : World} {p : Nat} {S : DS} {Z : List Nat} (h : RkS w p S Z) : Stp w w p S Z := ⟨Z, h, Mv.refl _ _⟩
theorem Stp.trans {w w1 w2 : World} {p : Nat} {S1 S2 : DS} {Z : List Nat} (h : Stp w w1 p S1 Z) (k : ∀ Z', RkS w1 p S1 Z' → Stp w1 w2 p S2 Z') : Stp w w2 p S2 Z := by
  obtain ⟨Z1, h1, m1⟩ := h
  obtain ⟨Z2, h2, m2⟩ := k Z1 h1
  exact ⟨Z2, h2, m1.trans m2⟩
theorem Fr.set1 {w : World} {p : Nat} {Z : List Nat} (hp : p ∈ Z) (j : Nat) (v : Value) : Fr Z w (w.setCell ⟨p, j, none⟩ v) := (Fr.refl Z w).setCell (Or.inr hp) v
theorem set_other {w : World} {p j : Nat} {v : Value} {k : Nat} (h : k ≠ p) : (w.setCell ⟨p, j, none⟩ v).heap[k]? = w.heap[k]? := Below.heap_setCell _ _ _ _ (fun c => h (by simpa using c))
theorem set_blk {w : World} {p j : Nat} {v : Value} {cs : Array Value} {t : TypeId} {z : Nat × Nat} (h : w.heap[p]? = some (.cells cs t z)) : (w.setCell ⟨p, j, none⟩ v).heap[p]? = some (.cells (cs.setIfInBounds j v) t z) := by
  simp [World.setCell, Array.getElem?_modify, h]
/-- The struct's cells are changed, one behind the other. -/
theorem Rk.step {w w' : World} {p : Nat} {dv sv : Value} {bt bt' : Int} {S S' : DS} (h : Rk w p dv sv bt S) (hb : w'.heap[p]? = some (.cells #[dv, sv, .bool (!S'.up), .int .i64 (lft S'), .int .i64 bt', .int .i64 (S'.cnt : Int)] 38 (0, 0))) (hk : ∀ k, k ≠ p → w'.heap[k]? = w.heap[k]?) (hf : Fr (rfoot p dv sv) w w')
    (e1 : S'.N = S.N) (e2 : S'.base = S.base) (e3 : S'.since = S.since) (e4 : ∀ n b, S'.cut = some (n, b) → bt' = b ∧ (n : Int) ≤ 9223372036854775807) (e5 : S'.ok) (e6 : S'.up = false → S'.cut = none) : Stp w w' p S' (rfoot p dv sv) :=
  ⟨rfoot p dv sv, ⟨dv, sv, bt', rfl, h.upd hb hk e1 e2 e3 e4 e5 e6⟩, hf, fun _ hx => Or.inl hx⟩

end Go.Proofs.Ytimhjheigejjmaa
