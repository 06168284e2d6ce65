/- A chain in memory: a map of numbers by numbers, the struct. No walk is in this text. -/
import Derived.Test.YtkaioidneknmjaaChB
namespace Go.Proofs.Ytkaioidneknmjaa.Tn
open Go.RowKit Go.Maps

/-! Keys that were left: by their numbers, rising. -/
abbrev Lfs := List (Nat × Nat)
def lkp (l : Lfs) (k : Int) : Option Nat := (l.find? fun p => decide ((p.1 : Int) = k)).map (·.2)
def rmv (l : Lfs) (k : Int) : Lfs := l.filter fun p => !decide ((p.1 : Int) = k)
theorem lkp_nil (k : Int) : lkp [] k = none := rfl
theorem lkp_cons (p : Nat × Nat) (l : Lfs) (k : Int) : lkp (p :: l) k = if (p.1 : Int) = k then some p.2 else lkp l k := by
  unfold lkp
  rw [List.find?_cons]
  by_cases h : (p.1 : Int) = k <;> simp [h]
theorem lkp_none {l : Lfs} {k : Int} (h : ∀ p ∈ l, (p.1 : Int) ≠ k) : lkp l k = none := by
  induction l with
  | nil => rfl
  | cons p l ih => rw [lkp_cons, if_neg (h p (by simp)), ih (fun q hq => h q (List.mem_cons_of_mem _ hq))]
theorem lkp_some {l : Lfs} {k : Int} {t : Nat} (h : lkp l k = some t) : ∃ p ∈ l, (p.1 : Int) = k ∧ p.2 = t := by
  induction l with
  | nil => cases h
  | cons p l ih =>
    rw [lkp_cons] at h
    split at h
    · next q => cases h; exact ⟨p, by simp, q, rfl⟩
    · obtain ⟨x, hx, e⟩ := ih h; exact ⟨x, List.mem_cons_of_mem _ hx, e⟩
theorem lkp_snoc (l : Lfs) (m t : Nat) (h : ∀ p ∈ l, p.1 < m) (k : Int) : lkp (l ++ [(m, t)]) k = if (m : Int) = k then some t else lkp l k := by
  induction l with
  | nil => rw [List.nil_append, lkp_cons, lkp_nil]
  | cons p l ih =>
    rw [List.cons_append, lkp_cons, lkp_cons, ih (fun q hq => h q (List.mem_cons_of_mem _ hq))]
    by_cases c : (p.1 : Int) = k
    · have := h p (by simp)
      rw [if_pos c, if_pos c, if_neg (by omega)]
    · rw [if_neg c, if_neg c]
theorem lkp_rmv (l : Lfs) (m k : Int) : lkp (rmv l m) k = if k = m then none else lkp l k := by
  induction l with
  | nil => simp [rmv, lkp]
  | cons p l ih =>
    unfold rmv at ih ⊢
    rw [List.filter_cons]
    by_cases c : (p.1 : Int) = m
    · simp only [c, decide_true, Bool.not_true, Bool.false_eq_true, if_false]
      rw [ih, lkp_cons]
      by_cases q : k = m
      · rw [if_pos q, if_pos q]
      · rw [if_neg q, if_neg q, if_neg (by omega)]
    · simp only [c, decide_false, Bool.not_false, if_true]
      rw [lkp_cons, ih, lkp_cons]
      by_cases q : k = m
      · subst q; rw [if_pos rfl, if_pos rfl, if_neg c]
      · rw [if_neg q, if_neg q]
/-- The numbers rise, and are below the next one. -/
structure Lf (nx : Nat) (l : Lfs) : Prop where
  up : l.Pairwise fun p q => p.1 < q.1
  lt : ∀ p ∈ l, p.1 < nx
theorem Lf.nil (nx : Nat) : Lf nx [] := ⟨List.Pairwise.nil, by simp⟩
theorem Lf.snoc {nx : Nat} {l : Lfs} (h : Lf nx l) (t : Nat) : Lf (nx + 1) (l ++ [(nx, t)]) := by
  refine ⟨List.pairwise_append.2 ⟨h.up, by simp, fun p hp q hq => ?_⟩, fun p hp => ?_⟩
  · simp at hq; subst hq; exact h.lt p hp
  · rcases List.mem_append.1 hp with c | c
    · have := h.lt p c; omega
    · simp at c; subst c; simp
theorem Lf.rmv {nx : Nat} {l : Lfs} (h : Lf nx l) (k : Int) : Lf nx (Tn.rmv l k) := ⟨h.up.filter _, fun p hp => h.lt p (List.mem_filter.1 hp).1⟩
theorem Lf.mono {nx nx' : Nat} {l : Lfs} (h : Lf nx l) (hn : nx ≤ nx') : Lf nx' l := ⟨h.up, fun p hp => by have := h.lt p hp; omega⟩
theorem Lf.rmv_len {nx : Nat} {l : Lfs} (h : Lf nx l) (k : Int) : (Tn.rmv l k).length + (if (lkp l k).isSome then 1 else 0) = l.length := by
  obtain ⟨up, -⟩ := h
  induction l with
  | nil => rfl
  | cons p l ih =>
    have h1 := (List.pairwise_cons.1 up).1
    have ih := ih (List.pairwise_cons.1 up).2
    unfold Tn.rmv at ih ⊢
    rw [List.filter_cons, lkp_cons]
    by_cases c : (p.1 : Int) = k
    · have e : lkp l k = none := lkp_none (fun q hq => by have := h1 q hq; omega)
      rw [e] at ih
      simp [c] at ih ⊢
      exact ih
    · simp only [c, decide_false, Bool.not_false, if_true, if_false, List.length_cons]
      omega
theorem lkp_of_mem {nx : Nat} {l : Lfs} (h : Lf nx l) {p : Nat × Nat} (hp : p ∈ l) : lkp l (p.1 : Int) = some p.2 := by
  obtain ⟨up, -⟩ := h
  induction l with
  | nil => cases hp
  | cons q l ih =>
    rw [lkp_cons]
    rcases List.mem_cons.1 hp with rfl | c
    · rw [if_pos rfl]
    · have := (List.pairwise_cons.1 up).1 p c
      rw [if_neg (by omega)]
      exact ih c (List.pairwise_cons.1 up).2

/-! A map of numbers. -/
def RI : Value → Option (DataW Unit × List MemPlace)
  | .int .i64 z => some (.lit (.int .i64 z), [])
  | _ => none
theorem RI_mk (z : Int) : RI (.int .i64 z) = some (.lit (.int .i64 z), []) := rfl
theorem RI_inv {v : Value} {z : DataW Unit × List MemPlace} (h : RI v = some z) : ∃ x, v = .int .i64 x ∧ z = (.lit (.int .i64 x), []) := by
  match v, h with
  | .int .i64 x, h => cases h; exact ⟨x, rfl, rfl⟩
theorem lawI : Keyed Try.prog 3 := int_keyed Try.underlying3
theorem keyI {k : Int} (h : i64r k) : keyOf Try.prog 3 (.int .i64 k) = some (.int .i64 k) := keyOf_int_mk Try.underlying3 (wf_i64 h.1 h.2)
structure ID (D : DataW Unit) (l : Lfs) : Prop where
  cnt : size D = l.length
  key : ∀ kl, Maps.has D kl = true → ∃ k : Int, kl = .int .i64 k
  has : ∀ k : Int, Maps.has D (.int .i64 k) = (lkp l k).isSome
  at_ : ∀ (k : Int) (t : Nat), lkp l k = some t → ∀ z, D.atKey (.int .i64 k) z = .lit (.int .i64 (t : Int))
def IMap (w : World) (b : Nat) (l : Lfs) : Prop := ∃ D : DataW Unit, w.ownsMap Try.prog 3 RI b l.length D ∧ ID D l
theorem IMap.made (w : World) : IMap (w.alloc (.map #[] 0)) w.heap.size [] := ⟨.map [], World.ownsMap_made w _ _ _, ⟨rfl, fun kl h => by simp [Maps.has] at h, fun k => by simp [Maps.has, lkp_nil], fun k t h => by simp [lkp_nil] at h⟩⟩
theorem IMap.lt {w : World} {b : Nat} {l : Lfs} (h : IMap w b l) : b < w.heap.size := by obtain ⟨D, h1, _⟩ := h; exact h1.lt
theorem IMap.block {w : World} {b : Nat} {l : Lfs} (h : IMap w b l) : ∃ es clock, w.heap[b]? = some (.map es clock) := by obtain ⟨D, ⟨es, clock, h1, _⟩, _⟩ := h; exact ⟨es, clock, h1⟩
theorem IMap.keep {w w' : World} {b : Nat} {l : Lfs} (h : IMap w b l) (hb : w'.heap[b]? = w.heap[b]?) : IMap w' b l := by
  obtain ⟨D, ⟨es, clock, h1, h2⟩, h3⟩ := h
  exact ⟨D, ⟨es, clock, by rw [hb]; exact h1, h2⟩, h3⟩
theorem lit_neI {a b : Int} (h : a ≠ b) : (Lit.int .i64 a) ≠ .int .i64 b := by intro c; simp only [Lit.int.injEq, true_and] at c; exact h c
theorem own_boundI {w : World} {b n m : Nat} {D : DataW Unit} (h : w.ownsMap Try.prog 3 RI b n D) (hs : size D ≤ m) : w.ownsMap Try.prog 3 RI b m D := by
  obtain ⟨es, clock, h1, h2, h3, rfl⟩ := h
  refine ⟨es, clock, h1, h2, ?_, rfl⟩
  simpa [size, length_sorted] using hs
set_option maxRecDepth 100000 in
theorem IMap.store {w : World} {b : Nat} {l : Lfs} (B : IMap w b l) (hc : l.length ≤ 1000000) (m t : Nat) (hm : ∀ p ∈ l, p.1 < m) (hr : i64r (m : Int)) :
    ∃ w', (Instr.mapUpdate 69 (.map (some b)) (.int .i64 (m : Int)) (.int .i64 (t : Int))).run Try.prog w = .ok () w' ∧ IMap w' b (l ++ [(m, t)]) ∧ w.grownBy w' (some b) := by
  obtain ⟨D, h1, h2⟩ := B
  obtain ⟨w', r, h3, h4⟩ := h1.update lawI Try.underlying69 (by unfold maxLen; omega) (keyI hr) (RI_mk (t : Int))
  have hT := h1.tidy lawI
  have hk : WideAt.IsKeyLit (.int .i64 (m : Int)) := trivial
  have h0 : lkp l (m : Int) = none := lkp_none (fun p hp => by have := hm p hp; omega)
  have hd : ID (D.put (.int .i64 (m : Int)) (.lit (.int .i64 (t : Int)))) (l ++ [(m, t)]) := by
    refine ⟨?_, ?_, ?_, ?_⟩
    · rw [size_put hT, h2.has, h0, h2.cnt]; simp
    · intro kl hh
      by_cases c : kl = .int .i64 (m : Int)
      · exact ⟨m, c⟩
      · rw [has_put_other c] at hh; exact h2.key kl hh
    · intro k
      rw [lkp_snoc l m t hm]
      by_cases c : (m : Int) = k
      · subst c; rw [has_put_same hT.isMap hk]; simp
      · rw [has_put_other (lit_neI (fun q => c q.symm)), h2.has, if_neg c]
    · intro k t' ht z
      rw [lkp_snoc l m t hm] at ht
      by_cases c : (m : Int) = k
      · subst c
        simp only [if_true, Option.some.injEq] at ht
        subst ht
        rw [atKey_put_same hT.isMap hk]
      · rw [if_neg c] at ht
        rw [atKey_put_other (lit_neI (fun q => c q.symm))]
        exact h2.at_ k t' ht z
  exact ⟨w', r, ⟨_, own_boundI h3 (by rw [hd.cnt]; exact Nat.le_refl _), hd⟩, h4⟩
set_option maxRecDepth 100000 in
theorem IMap.drop {w : World} {b nx : Nat} {l : Lfs} (B : IMap w b l) (hl : Lf nx l) (k : Int) (hr : i64r k) (ty : TypeId) :
    ∃ w', (Builtin.delete_ #[69, 3] ty #[.map (some b), .int .i64 k]).run Try.prog w = .ok (.tuple #[]) w' ∧ IMap w' b (rmv l k) ∧ w.grownBy w' (some b) := by
  obtain ⟨D, h1, h2⟩ := B
  obtain ⟨w', r, h3, h4⟩ := h1.drop lawI Try.underlying69 (keyI hr) ty
  have hd : ID (D.del (.int .i64 k)) (rmv l k) := by
    refine ⟨?_, ?_, ?_, ?_⟩
    · have e := size_del (k := .int .i64 k) (h1.tidy lawI)
      rw [h2.has, h2.cnt] at e
      have := hl.rmv_len k
      omega
    · intro kl hh
      by_cases c : kl = .int .i64 k
      · exact ⟨k, c⟩
      · rw [has_del_other c] at hh; exact h2.key kl hh
    · intro j
      rw [lkp_rmv]
      by_cases c : j = k
      · subst c; rw [has_del_same, if_pos rfl]; rfl
      · rw [has_del_other (lit_neI c), h2.has, if_neg c]
    · intro j t ht z
      rw [lkp_rmv] at ht
      by_cases c : j = k
      · rw [if_pos c] at ht; cases ht
      · rw [if_neg c] at ht
        rw [atKey_del_other (lit_neI c)]
        exact h2.at_ j t ht z
  exact ⟨w', r, ⟨_, own_boundI h3 (by rw [hd.cnt]; exact Nat.le_refl _), hd⟩, h4.grown⟩
def lkV (l : Lfs) (k : Int) : Int := match lkp l k with
  | some t => (t : Int)
  | none => 0
set_option maxRecDepth 100000 in
theorem IMap.lookOk {w : World} {b : Nat} {l : Lfs} (B : IMap w b l) {k : Int} (hr : i64r k) :
    (Instr.lookup 69 (.map (some b)) (.int .i64 k) true).run Try.prog w = .ok (.tuple #[.int .i64 (lkV l k), .bool (lkp l k).isSome]) w := by
  obtain ⟨D, h1, h2⟩ := B
  obtain ⟨v, ps, r, hv⟩ := h1.look_ok lawI Try.underlying69 (zeroInt w) (RI_mk 0) (keyI hr)
  obtain ⟨x, rfl, hz⟩ := RI_inv hv
  rw [r, h2.has]
  simp only [Prod.mk.injEq] at hz
  unfold lkV
  cases e : lkp l k with
  | none =>
    rw [atKey_of_not_has (by rw [h2.has, e]; rfl)] at hz
    simp only [DataW.lit.injEq, Lit.int.injEq, true_and] at hz
    rw [← hz.1]
  | some t =>
    rw [h2.at_ k t e] at hz
    simp only [DataW.lit.injEq, Lit.int.injEq, true_and] at hz
    rw [← hz.1]
set_option maxRecDepth 100000 in
theorem IMap.look {w : World} {b : Nat} {l : Lfs} (B : IMap w b l) {k : Int} (hr : i64r k) :
    (Instr.lookup 69 (.map (some b)) (.int .i64 k) false).run Try.prog w = .ok (.int .i64 (lkV l k)) w := by
  obtain ⟨D, h1, h2⟩ := B
  obtain ⟨v, ps, r, hv⟩ := h1.lookup lawI Try.underlying69 (zeroInt w) (RI_mk 0) (keyI hr)
  obtain ⟨x, rfl, hz⟩ := RI_inv hv
  rw [r]
  simp only [Prod.mk.injEq] at hz
  unfold lkV
  cases e : lkp l k with
  | none =>
    rw [atKey_of_not_has (by rw [h2.has, e]; rfl)] at hz
    simp only [DataW.lit.injEq, Lit.int.injEq, true_and] at hz
    rw [← hz.1]
  | some t =>
    rw [h2.at_ k t e] at hz
    simp only [DataW.lit.injEq, Lit.int.injEq, true_and] at hz
    rw [← hz.1]
theorem IMap.len {w : World} {b : Nat} {l : Lfs} (B : IMap w b l) (ty : TypeId) : (Builtin.len_ #[69] ty #[.map (some b)]).run Try.prog w = .ok (.int .i64 (l.length : Nat)) w := by
  obtain ⟨D, h1, h2⟩ := B
  rw [h1.len Try.underlying69 ty, h2.cnt]

/-! The struct. -/
def chC (b lm : Nat) (nx x : Nat) : Array Value := #[.pointer (some ⟨b, 0, none⟩), .map (some lm), .int .i64 (nx : Int), .int .i64 (x : Int)]
structure Cn (w : World) (c b lm : Nat) (l : Lfs) (nx x : Nat) : Prop where
  blk : w.heap[c]? = some (.cells (chC b lm nx x) 71 (0, 0))
  map : IMap w lm l
  lf : Lf nx l
theorem Cn.ne {w : World} {c b lm : Nat} {l : Lfs} {nx x : Nat} (h : Cn w c b lm l nx x) : c ≠ lm := by
  rintro rfl
  obtain ⟨es, cl, e⟩ := h.map.block
  rw [h.blk] at e; cases e
theorem Cn.keep {w w' : World} {c b lm : Nat} {l : Lfs} {nx x : Nat} (h : Cn w c b lm l nx x) (h1 : w'.heap[c]? = w.heap[c]?) (h2 : w'.heap[lm]? = w.heap[lm]?) : Cn w' c b lm l nx x := ⟨by rw [h1]; exact h.blk, h.map.keep h2, h.lf⟩
theorem Cn.bw {w w' : World} {c b lm : Nat} {l : Lfs} {nx x : Nat} (h : Cn w c b lm l nx x) (hb : Below w.heap.size w w') : Cn w' c b lm l nx x := h.keep (hb.block c (lt_of_blk h.blk)) (hb.block lm h.map.lt)
theorem Cn.cells {w : World} {c b lm : Nat} {l : Lfs} {nx x : Nat} (h : Cn w c b lm l nx x) : w.cell? ⟨c, 0, none⟩ = some (.pointer (some ⟨b, 0, none⟩)) ∧ w.cell? ⟨c, 1, none⟩ = some (.map (some lm)) ∧ w.cell? ⟨c, 2, none⟩ = some (.int .i64 (nx : Int)) ∧ w.cell? ⟨c, 3, none⟩ = some (.int .i64 (x : Int)) :=
  ⟨blk_cell h.blk rfl, blk_cell h.blk rfl, blk_cell h.blk rfl, blk_cell h.blk rfl⟩
end Go.Proofs.Ytkaioidneknmjaa.Tn
