/- The document's Dag of a term: the contract of put. -/
import Derived.Test.YtokdflbajnecpaaNTmRMake
namespace Go.Proofs.Ytokdflbajnecpaa.Tn
open Go.RowKit Go.Maps

/-- While the document's dag is told: the list so far, and where each term stands. -/
structure Pt (w wr : World) (L : List Tm) (ov : Value) (gt : Nat) (o : List Nat) : Prop where
  told : Told L o
  rl : TmRow w.heap.size wr ov (outs L o)
  blk : ∃ cur, wr.heap[gt]? = some (.cells cur 3 (0, 0)) ∧ ∀ k, k ≤ L.length → cur[k]? = some (.int .i64 ((pos o k : Nat) : Int))
  low : w.heap.size ≤ gt
  bel : Below w.heap.size w wr
structure PStep (wr w' : World) (gt : Nat) (ov ov' : Value) : Prop where
  fr : Fr (gt :: ov.ownBlock.toList) wr w'
  place : ∀ k, ov'.ownBlock = some k → ov.ownBlock = some k ∨ wr.heap.size ≤ k
theorem PStep.refl (wr : World) (gt : Nat) (ov : Value) : PStep wr wr gt ov ov := ⟨Fr.refl _ _, fun _ h => Or.inl h⟩
theorem PStep.trans {wr w1 w2 : World} {gt : Nat} {ov ov1 ov2 : Value} (h : PStep wr w1 gt ov ov1) (k : PStep w1 w2 gt ov1 ov2) : PStep wr w2 gt ov ov2 := by
  refine ⟨h.fr.trans k.fr (fun _ _ c => c) (fun x hx c => ?_), fun x hx => ?_⟩
  · rcases List.mem_cons.1 c with c | c
    · exact List.mem_cons.2 (Or.inl c)
    · rcases h.place x (by simpa using c) with q | q
      · exact List.mem_cons.2 (Or.inr (by simpa using q))
      · omega
  · rcases k.place x hx with c | c
    · exact h.place x c
    · exact Or.inr (Nat.le_trans h.fr.size c)
theorem PStep.ofBelow {wr w' : World} (gt : Nat) (ov : Value) (h : Below wr.heap.size wr w') : PStep wr w' gt ov ov := ⟨(Fr.ofBelow h).mono (fun _ _ c => by cases c), fun _ q => Or.inl q⟩
theorem Pt.lt {w wr : World} {L : List Tm} {ov : Value} {gt : Nat} {o : List Nat} (h : Pt w wr L ov gt o) : gt < wr.heap.size := by obtain ⟨cur, hc, _⟩ := h.blk; exact lt_of_blk hc
theorem Pt.apart {w wr : World} {L : List Tm} {ov : Value} {gt : Nat} {o : List Nat} (h : Pt w wr L ov gt o) : ov.ownBlock ≠ some gt := by
  intro c
  obtain ⟨cur, hc, _⟩ := h.blk
  obtain ⟨_, h1⟩ := h.rl.block c
  rw [hc] at h1
  simp only [Option.some.injEq, Obj.cells.injEq] at h1
  exact term_ne_int h1.2.1.symm
theorem Pt.new {w wr w' : World} {L : List Tm} {ov : Value} {gt : Nat} {o : List Nat} (h : Pt w wr L ov gt o) (hb : Below wr.heap.size wr w') : Pt w w' L ov gt o := by
  obtain ⟨cur, hc, hk⟩ := h.blk
  exact ⟨h.told, h.rl.bw hb, ⟨cur, by rw [hb.block gt h.lt]; exact hc, hk⟩, h.low, bw_tr h.bel hb⟩
theorem Pt.cell {w wr : World} {L : List Tm} {ov : Value} {gt : Nat} {o : List Nat} (h : Pt w wr L ov gt o) {k : Nat} (hk : k ≤ L.length) : wr.cell? ⟨gt, k, none⟩ = some (.int .i64 ((pos o k : Nat) : Int)) ∧ wr.frozen? ⟨gt, k, none⟩ = false := by
  obtain ⟨cur, hc, hk'⟩ := h.blk
  exact ⟨by simp [World.cell?, hc, hk' k hk], by simp [World.frozen?, hc]⟩
/-- A cell of another block is written. -/
theorem Pt.box {w w2 : World} {L : List Tm} {ov : Value} {gt : Nat} {o : List Nat} (h : Pt w w2 L ov gt o) {x j : Nat} (hg : gt ≠ x) (ho : ov.ownBlock ≠ some x) (hx : w.heap.size ≤ x) (v : Value) : Pt w (w2.setCell ⟨x, j, none⟩ v) L ov gt o := by
  obtain ⟨cur, hc, hk⟩ := h.blk
  exact ⟨h.told, h.rl.keep (fun k hk => Below.heap_setCell _ _ _ _ (fun c => ho (by rw [hk, c]))), ⟨cur, by rw [Below.heap_setCell _ _ _ _ hg]; exact hc, hk⟩, h.low, h.bel.setCell hx _⟩
theorem pos_snoc {o : List Nat} {n k : Nat} (hn : n ∉ o) : pos (o ++ [n]) k = if k = n then o.length + 1 else pos o k := by
  by_cases c : k = n
  · subst c; simp [pos, List.idxOf_append, hn]
  · rw [if_neg c]
    by_cases d : k ∈ o
    · simp [pos, d, List.idxOf_append]
    · simp [pos, d, c]
/-- The term is told: appended, and its place is stored. -/
theorem Pt.tell {w w3 w4 : World} {L : List Tm} {ov v' : Value} {gt : Nat} {o : List Nat} {n : Nat} {ob : Obj} (h : Pt w w3 L ov gt o) (h1 : 1 ≤ n) (h2 : n ≤ L.length) (hn : n ∉ o) (hA : pA L n = 0 ∨ pA L n ∈ o) (hB : pB L n = 0 ∨ pB L n ∈ o)
    (hown : w4.ownsRow w.heap.size 55 4 v' ((outs L o).length + 1) ((outs L o).flatMap tmC ++ tmC (tr o (tmAt L n)))) (hg : (w3.alloc ob).grownBy w4 ov.ownBlock) (hat : v'.ownBlock = ov.ownBlock ∨ v'.ownBlock = some (w3.alloc ob).heap.size) :
    (w4.cell? ⟨gt, n, none⟩).isSome = true ∧ w4.frozen? ⟨gt, n, none⟩ = false ∧ Pt w (w4.setCell ⟨gt, n, none⟩ (.int .i64 ((o.length : Int) + 1))) L v' gt (o ++ [n]) ∧ PStep w3 (w4.setCell ⟨gt, n, none⟩ (.int .i64 ((o.length : Int) + 1))) gt ov v' := by
  have ap := h.apart
  have hs := h.bel.size
  obtain ⟨cur, hc, hk⟩ := h.blk
  have f1 : Fr ov.ownBlock.toList w3 w4 := ((Fr.refl ov.ownBlock.toList w3).alloc ob).tr (Fr.ofGrown hg)
  have hc4 : w4.heap[gt]? = some (.cells cur 3 (0, 0)) := by rw [f1.block gt h.lt (fun c => ap (by simpa using c))]; exact hc
  have hvg : v'.ownBlock ≠ some gt := by
    rcases hat with c | c
    · rw [c]; exact ap
    · rw [c]; intro e; have := h.lt; simp at e; omega
  have hr : TmRow w.heap.size w4 v' (outs L (o ++ [n])) := by
    rw [outs_snoc h.told h1 h2 hn hA hB]
    unfold TmRow; rw [flat_snoc, List.length_append]; exact hown
  have hlt : n < cur.size := by
    have := hk n h2
    rcases Nat.lt_or_ge n cur.size with q | q
    · exact q
    · rw [Array.getElem?_eq_none q] at this; cases this
  refine ⟨by simp [World.cell?, hc4, hk n h2], by simp [World.frozen?, hc4], ⟨h.told.snoc h1 h2 hn hA hB, ?_, ⟨cur.set! n (.int .i64 ((o.length : Int) + 1)), ?_, fun k hkl => ?_⟩, h.low, ?_⟩, ?_, fun k hk => ?_⟩
  · exact hr.keep fun k hk => Below.heap_setCell _ _ _ _ (fun c => hvg (by rw [hk, c]))
  · simp [World.setCell, Array.getElem?_modify, hc4]
  · rw [pos_snoc hn]
    by_cases c : k = n
    · subst c; rw [if_pos rfl]; simp [hlt]
    · rw [if_neg c]
      have : n ≠ k := fun e => c e.symm
      simp [this, hk k hkl]
  · have b4 : Below w.heap.size w w4 := (h.bel.alloc hs ob).grown hg (by simp; omega) (fun k hk => (h.rl.lt k hk).1)
    exact b4.setCell h.low _
  · exact (f1.mono (fun x _ c => List.mem_cons_of_mem _ c)).setCell (Or.inr (by simp)) _
  · rcases hat with c | c
    · left; rw [← c]; exact hk
    · right; rw [c] at hk; simp at hk; omega

theorem ret_put {a b : Value} : Ending.returned (.tuple #[a, b]) = .returned (.tuple #[a, b]) := rfl

end Go.Proofs.Ytokdflbajnecpaa.Tn
