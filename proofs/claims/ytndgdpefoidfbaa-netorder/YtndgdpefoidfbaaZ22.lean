/- Texts joined: QuGe NeA NeB. -/
import Derived.Test.YtndgdpefoidfbaaZ21
/- May a link expect (mayExpect). mkQuG.py writes it. -/
namespace Go.Proofs.Ytndgdpefoidfbaa
open Go.RowKit Go.Maps
theorem wpList_load_midG {ops : Array Oper} {rest : List Oper} {op : Oper} {a : Act} {w : World} {Q : Exit → Act → World → Prop} (hgd : Region.wanted op (yielded ops a.tmps) = true) (ty : TypeId) (x : Operand) (ho : op.op = .load ty x)
    (b o : Nat) (hx : a.eval x = .pointer (some ⟨b, o, none⟩)) (cs : List Value) (d : TypeDesc) (hc : w.rangeAt b o cs)
    (hu : Try.prog.underlying ty = some d) (hd : d.isRow = true) (hi : (Try.prog.info? ty).map (·.size) = some cs.length)
    (h : wpList Try.prog ops Q rest (a.put op.dst (.agg cs.toArray)) w) : wpList Try.prog ops Q (op :: rest) a w :=
  wpList_step fun K hK => by rw [if_pos hgd]; exact wp_load_mid ty x ho b o hx cs d hc hu hd hi (hK _ _ h)
end Go.Proofs.Ytndgdpefoidfbaa

/- A net in memory. No walk is in this text. -/
namespace Go.Proofs.Ytndgdpefoidfbaa
open Go.RowKit Go.Maps
theorem ne_blocks {w w' : World} {B : Nat} {e : TypeId} {c n : Nat} {v : Value} {xs : List Value} (h : w.ownsRow B e c v n xs) (hb : ∀ k, v.ownBlock = some k → w'.heap[k]? = w.heap[k]?) : w'.ownsRow B e c v n xs := by
  refine ⟨h.1, h.2.imp id ?_⟩
  rintro ⟨g, cap, cur, rfl, q0, q1, q2⟩
  exact ⟨g, cap, cur, rfl, q0, by rw [hb g rfl]; exact q1, q2⟩
structure Py where
  b : Nat
  p : Pt
  x : Fx
def pyZ (q : Py) : List Nat := q.b :: fxZ q.x
def pyV (q : Py) : Value := .pointer (some ⟨q.b, 0, none⟩)
structure PyA (B : Nat) (w : World) (q : Py) : Prop where
  hb : B ≤ q.b
  blk : w.heap[q.b]? = some (.cells (ptC q.p q.x).toArray 44 (0, 0))
  of : OF B w q.p.fd q.x
  sm : SmF q.p.fd
theorem PyA.lt {B : Nat} {w : World} {q : Py} (h : PyA B w q) : ∀ k ∈ pyZ q, B ≤ k ∧ k < w.heap.size := fun k hk => by
  rcases List.mem_cons.1 hk with c | c
  · subst c; exact ⟨h.hb, lt_of_blk h.blk⟩
  · exact OF.lt h.of k c
theorem PyA.keep {B : Nat} {w w' : World} {q : Py} (h : PyA B w q) (hf : ∀ k ∈ pyZ q, w'.heap[k]? = w.heap[k]?) : PyA B w' q :=
  ⟨h.hb, by rw [hf q.b (by simp [pyZ])]; exact h.blk, OF.keep h.of (fun k hk => hf k (by simp [pyZ, hk])), h.sm⟩
structure NetS (B : Nat) (w : World) (nb : Nat) (gv : Value) (P : List Py) : Prop where
  hb : B ≤ nb
  box : w.heap[nb]? = some (.cells #[.bool true, gv] 61 (0, 0))
  row : w.ownsRow B 72 1 gv P.length (P.map pyV)
  ne : gv.ownBlock ≠ some nb
  el : ∀ q ∈ P, PyA B w q
  ap : ∀ q ∈ P, ∀ k ∈ pyZ q, k ≠ nb ∧ gv.ownBlock ≠ some k
def nsZ (nb : Nat) (gv : Value) : List Nat := nb :: gv.ownBlock.toList
theorem nsZ_not {nb k : Nat} {gv : Value} (h1 : k ≠ nb) (h2 : gv.ownBlock ≠ some k) : k ∉ nsZ nb gv := by
  unfold nsZ
  simp only [List.mem_cons, Option.mem_toList, not_or]
  exact ⟨h1, h2⟩
theorem NetS.keep {B nb : Nat} {w w' : World} {gv : Value} {P : List Py} (h : NetS B w nb gv P) (hf : ∀ k, B ≤ k → k < w.heap.size → w'.heap[k]? = w.heap[k]?) : NetS B w' nb gv P :=
  ⟨h.hb, by rw [hf nb h.hb (lt_of_blk h.box)]; exact h.box, ne_blocks h.row (fun k hk => hf k (World.ownsRow.lt h.row k hk).1 (World.ownsRow.lt h.row k hk).2), h.ne, fun q hq => (h.el q hq).keep (fun k hk => hf k ((h.el q hq).lt k hk).1 ((h.el q hq).lt k hk).2), h.ap⟩
theorem NetS.bw {B nb : Nat} {w w' : World} {gv : Value} {P : List Py} (h : NetS B w nb gv P) (hb : Below w.heap.size w w') : NetS B w' nb gv P := h.keep (fun k _ hk => hb.block k hk)
theorem NetS.turn {B nb : Nat} {w w' : World} {gv gv' : Value} {P P' : List Py} (h : NetS B w nb gv P) (h1 : w'.heap[nb]? = some (.cells #[.bool true, gv'] 61 (0, 0))) (h2 : w'.ownsRow B 72 1 gv' P'.length (P'.map pyV))
    (h3 : gv'.ownBlock = gv.ownBlock ∨ ∀ k, gv'.ownBlock = some k → w.heap.size ≤ k) (hf : ∀ k, k < w.heap.size → k ≠ nb → gv.ownBlock ≠ some k → w'.heap[k]? = w.heap[k]?)
    (h4 : ∀ q ∈ P', q ∈ P ∨ (PyA B w' q ∧ (∀ k ∈ pyZ q, k ≠ nb ∧ gv'.ownBlock ≠ some k))) : NetS B w' nb gv' P' := by
  have hn := lt_of_blk h.box
  refine ⟨h.hb, h1, h2, ?_, fun q hq => ?_, fun q hq k hk => ?_⟩
  · rcases h3 with e | e
    · rw [e]; exact h.ne
    · intro c; have := e nb c; omega
  · rcases h4 q hq with c | c
    · exact (h.el q c).keep (fun k hk => hf k ((h.el q c).lt k hk).2 (h.ap q c k hk).1 (h.ap q c k hk).2)
    · exact c.1
  · rcases h4 q hq with c | c
    · refine ⟨(h.ap q c k hk).1, ?_⟩
      rcases h3 with e | e
      · rw [e]; exact (h.ap q c k hk).2
      · intro d; have := e k d; have := ((h.el q c).lt k hk).2; omega
    · exact c.2 k hk
theorem NetS.len {B nb : Nat} {w : World} {gv : Value} {P : List Py} (h : NetS B w nb gv P) : ∃ a c, gv = .slice a P.length c := own_slice h.row
theorem NetS.at {B nb : Nat} {w : World} {a : Option Addr} {n c : Nat} {P : List Py} (h : NetS B w nb (.slice a n c) P) {i : Nat} {q : Py} (hi : P[i]? = some q) : ∃ g, a = some ⟨g, 0, none⟩ ∧ w.cell? ⟨g, i, none⟩ = some (pyV q) := by
  have hl := (List.getElem?_eq_some_iff.1 hi).1
  obtain ⟨g, cap', hv', hg, hc, _⟩ := own_open h.row (by omega)
  cases hv'
  have := own_cell h.row rfl (by rw [List.getElem?_map, hi]; rfl : (P.map pyV)[i]? = some (pyV q))
  exact ⟨g, rfl, this⟩
end Go.Proofs.Ytndgdpefoidfbaa

/- The small functions of package net: New, missing, full, Len, find. -/
namespace Go.Proofs.Ytndgdpefoidfbaa
open Go.RowKit Go.Maps
set_option maxRecDepth 100000 in
theorem neNew_any (w : World) : Calls Try.prog 11 #[] w fun e w' => e = .returned (.pointer (some ⟨w.heap.size, 0, none⟩)) ∧ Below w.heap.size w w' ∧ ∀ B, B ≤ w.heap.size → NetS B w' w.heap.size (.slice none 0 0) [] := by
  go_enter Try.func11, Try.ntmps11
  go_wp2_with fail
  go_ret
  refine ⟨rfl, bwA _ _, fun B hB => ⟨hB, heap_alloc_new _ _, ?_, ?_, ?_, ?_⟩⟩
  · exact ⟨rfl, Or.inl ⟨rfl, rfl⟩⟩
  · intro c; cases c
  · intro q hq; cases hq
  · intro q hq; cases hq
set_option maxRecDepth 100000 in
theorem neMissing_is {B nb : Nat} {w : World} {gv : Value} {P : List Py} (h : NetS B w nb gv P) : Calls Try.prog 24 #[.pointer (some ⟨nb, 0, none⟩)] w fun e w' => e = .returned (.bool false) ∧ w' = w := by
  have hc : w.cell? ⟨nb, 0, none⟩ = some (.bool true) := blk_c h.box rfl
  clear h
  go_enter Try.func24, Try.ntmps24
  go_wp2_with fail
  go_ret
  exact ⟨rfl, rfl⟩
set_option maxRecDepth 100000 in
theorem neFull_any {B nb : Nat} {w : World} {gv : Value} {P : List Py} (h : NetS B w nb gv P) : Calls Try.prog 26 #[.pointer (some ⟨nb, 0, none⟩)] w fun e w' => e = .returned (.bool (decide (P.length = 4096))) ∧ w' = w := by
  obtain ⟨a, c, rfl⟩ := h.len
  have hc : w.cell? ⟨nb, 1, none⟩ = some (.slice a P.length c) := blk_c h.box rfl
  generalize P.length = N at *
  clear h
  go_enter Try.func26, Try.ntmps26
  by_cases hN : N = 4096
  · subst hN
    go_wp2_with fail
    go_ret
    exact ⟨rfl, rfl⟩
  · have q : ¬ ((N : Int) = 4096) := by omega
    rw [decide_eq_false hN]
    go_wp2_with fail
    go_ret
    exact ⟨by simp; exact q, rfl⟩
set_option maxRecDepth 100000 in
theorem neLen_any {B nb : Nat} {w : World} {gv : Value} {P : List Py} (h : NetS B w nb gv P) : Calls Try.prog 14 #[.pointer (some ⟨nb, 0, none⟩)] w fun e w' => e = .returned (.int .i64 (P.length : Int)) ∧ w' = w := by
  have K := hide (neMissing_is h)
  obtain ⟨a, c, rfl⟩ := h.len
  have hc : w.cell? ⟨nb, 1, none⟩ = some (.slice a P.length c) := blk_c h.box rfl
  generalize P.length = N at *
  clear h
  go_enter Try.func14, Try.ntmps14
  go_wp2_with fail
  refine (unhide K).mono ?_
  rintro e w1 ⟨rfl, rfl⟩
  clear K
  go_wp2_with fail
  go_ret
  exact ⟨rfl, rfl⟩
set_option maxRecDepth 100000 in
theorem neFind_any {B nb : Nat} {w : World} {gv : Value} {P : List Py} (h : NetS B w nb gv P) (at_ : Int) : Calls Try.prog 28 #[.pointer (some ⟨nb, 0, none⟩), .int .i64 at_] w fun e w' => (0 ≤ at_ → at_ < (P.length : Int) → e = .returned (.int .i64 0)) ∧ ((at_ < 0 ∨ (P.length : Int) ≤ at_) → e = .returned (.int .i64 7)) ∧ w' = w := by
  have K := hide (neMissing_is h)
  obtain ⟨a, c, rfl⟩ := h.len
  have hc : w.cell? ⟨nb, 1, none⟩ = some (.slice a P.length c) := blk_c h.box rfl
  generalize P.length = N at *
  clear h
  go_enter Try.func28, Try.ntmps28
  go_wp2_with fail
  refine (unhide K).mono ?_
  rintro e w1 ⟨rfl, rfl⟩
  clear K
  by_cases h0 : at_ < 0
  · go_wp2_with fail
    go_ret
    exact ⟨fun c _ => by omega, fun _ => rfl, rfl⟩
  · by_cases h1 : at_ < (N : Int)
    · have q1 : ¬ ((N : Int) ≤ at_) := by omega
      go_wp2_with fail
      go_ret
      exact ⟨fun _ _ => rfl, fun c => by omega, rfl⟩
    · have q1 : (N : Int) ≤ at_ := by omega
      go_wp2_with fail
      go_ret
      exact ⟨fun _ c => by omega, fun _ => rfl, rfl⟩
end Go.Proofs.Ytndgdpefoidfbaa
