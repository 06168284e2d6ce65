/- The document's Dag of a term: the contract of put. -/
import Derived.Test.YtfpimmbjjcpobaaGreatDoorTmRMake
namespace Go.Proofs.YtfpimmbjjcpobaaGreatDoor
open Go.RowKit Go.Maps

/-- While the document's dag is told: the list so far, and where each term stands. -/
structure Pt (w wr : World) (L : List Tm) (ov : Value) (gt : Nat) (o : List Nat) : Prop where
  told : Told L o
  rl : TmRow w.heap.size wr ov (outs L o)
  blk : ∃ cur, wr.heap[gt]? = some (.cells cur 3 (0, 0)) ∧ ∀ k, k ≤ L.length → cur[k]? = some (.int .i64 ((pos o k : Nat) : Int))
  low : w.heap.size ≤ gt
  bel : Below w.heap.size w wr
structure PStep (wr w' : World) (gt : Nat) (ov ov' : Value) : Prop where
  fr : Fr (gt :: ov.ownBlock.toList) wr w'
  place : ∀ k, ov'.ownBlock = some k → ov.ownBlock = some k ∨ wr.heap.size ≤ k
theorem PStep.refl (wr : World) (gt : Nat) (ov : Value) : PStep wr wr gt ov ov := ⟨Fr.refl _ _, fun _ h => Or.inl h⟩
theorem PStep.trans {wr w1 w2 : World} {gt : Nat} {ov ov1 ov2 : Value} (h : PStep wr w1 gt ov ov1) (k : PStep w1 w2 gt ov1 ov2) : PStep wr w2 gt ov ov2 := by
  refine ⟨h.fr.trans k.fr (fun _ _ c => c) (fun x hx c => ?_), fun x hx => ?_⟩
  · rcases List.mem_cons.1 c with c | c
    · exact List.mem_cons.2 (Or.inl c)
    · rcases h.place x (by simpa using c) with q | q
      · exact List.mem_cons.2 (Or.inr (by simpa using q))
      · omega
  · rcases k.place x hx with c | c
    · exact h.place x c
    · exact Or.inr (Nat.le_trans h.fr.size c)
theorem PStep.ofBelow {wr w' : World} (gt : Nat) (ov : Value) (h : Below wr.heap.size wr w') : PStep wr w' gt ov ov := ⟨(Fr.ofBelow h).mono (fun _ _ c => by cases c), fun _ q => Or.inl q⟩
theorem Pt.lt {w wr : World} {L : List Tm} {ov : Value} {gt : Nat} {o : List Nat} (h : Pt w wr L ov gt o) : gt < wr.heap.size := by obtain ⟨cur, hc, _⟩ := h.blk; exact lt_of_blk hc
theorem Pt.apart {w wr : World} {L : List Tm} {ov : Value} {gt : Nat} {o : List Nat} (h : Pt w wr L ov gt o) : ov.ownBlock ≠ some gt := by
  intro c
  obtain ⟨cur, hc, _⟩ := h.blk
  obtain ⟨_, h1⟩ := h.rl.block c
  rw [hc] at h1
  simp only [Option.some.injEq, Obj.cells.injEq] at h1
  exact term_ne_int h1.2.1.symm
theorem Pt.new {w wr w' : World} {L : List Tm} {ov : Value} {gt : Nat} {o : List Nat} (h : Pt w wr L ov gt o) (hb : Below wr.heap.size wr w') : Pt w w' L ov gt o := by
  obtain ⟨cur, hc, hk⟩ := h.blk
  exact ⟨h.told, h.rl.bw hb, ⟨cur, by rw [hb.block gt h.lt]; exact hc, hk⟩, h.low, bw_tr h.bel hb⟩
theorem Pt.cell {w wr : World} {L : List Tm} {ov : Value} {gt : Nat} {o : List Nat} (h : Pt w wr L ov gt o) {k : Nat} (hk : k ≤ L.length) : wr.cell? ⟨gt, k, none⟩ = some (.int .i64 ((pos o k : Nat) : Int)) ∧ wr.frozen? ⟨gt, k, none⟩ = false := by
  obtain ⟨cur, hc, hk'⟩ := h.blk
  exact ⟨by simp [World.cell?, hc, hk' k hk], by simp [World.frozen?, hc]⟩
/-- A cell of another block is written. -/
theorem Pt.box {w w2 : World} {L : List Tm} {ov : Value} {gt : Nat} {o : List Nat} (h : Pt w w2 L ov gt o) {x j : Nat} (hg : gt ≠ x) (ho : ov.ownBlock ≠ some x) (hx : w.heap.size ≤ x) (v : Value) : Pt w (w2.setCell ⟨x, j, none⟩ v) L ov gt o := by
  obtain ⟨cur, hc, hk⟩ := h.blk
  exact ⟨h.told, h.rl.keep (fun k hk => Below.heap_setCell _ _ _ _ (fun c => ho (by rw [hk, c]))), ⟨cur, by rw [Below.heap_setCell _ _ _ _ hg]; exact hc, hk⟩, h.low, h.bel.setCell hx _⟩
theorem pos_snoc {o : List Nat} {n k : Nat} (hn : n ∉ o) : pos (o ++ [n]) k = if k = n then o.length + 1 else pos o k := by
  by_cases c : k = n
  · subst c; simp [pos, List.idxOf_append, hn]
  · rw [if_neg c]
    by_cases d : k ∈ o
    · simp [pos, d, List.idxOf_append]
    · simp [pos, d, c]
/-- The term is told: appended, and its place is stored. -/
theorem Pt.tell {w w3 w4 : World} {L : List Tm} {ov v' : Value} {gt : Nat} {o : List Nat} {n : Nat} {ob : Obj} (h : Pt w w3 L ov gt o) (h1 : 1 ≤ n) (h2 : n ≤ L.length) (hn : n ∉ o) (hA : pA L n = 0 ∨ pA L n ∈ o) (hB : pB L n = 0 ∨ pB L n ∈ o)
    (hown : w4.ownsRow w.heap.size 69 4 v' ((outs L o).length + 1) ((outs L o).flatMap tmC ++ tmC (tr o (tmAt L n)))) (hg : (w3.alloc ob).grownBy w4 ov.ownBlock) (hat : v'.ownBlock = ov.ownBlock ∨ v'.ownBlock = some (w3.alloc ob).heap.size) :
    (w4.cell? ⟨gt, n, none⟩).isSome = true ∧ w4.frozen? ⟨gt, n, none⟩ = false ∧ Pt w (w4.setCell ⟨gt, n, none⟩ (.int .i64 ((o.length : Int) + 1))) L v' gt (o ++ [n]) ∧ PStep w3 (w4.setCell ⟨gt, n, none⟩ (.int .i64 ((o.length : Int) + 1))) gt ov v' := by
  have ap := h.apart
  have hs := h.bel.size
  obtain ⟨cur, hc, hk⟩ := h.blk
  have f1 : Fr ov.ownBlock.toList w3 w4 := ((Fr.refl ov.ownBlock.toList w3).alloc ob).tr (Fr.ofGrown hg)
  have hc4 : w4.heap[gt]? = some (.cells cur 3 (0, 0)) := by rw [f1.block gt h.lt (fun c => ap (by simpa using c))]; exact hc
  have hvg : v'.ownBlock ≠ some gt := by
    rcases hat with c | c
    · rw [c]; exact ap
    · rw [c]; intro e; have := h.lt; simp at e; omega
  have hr : TmRow w.heap.size w4 v' (outs L (o ++ [n])) := by
    rw [outs_snoc h.told h1 h2 hn hA hB]
    unfold TmRow; rw [flat_snoc, List.length_append]; exact hown
  have hlt : n < cur.size := by
    have := hk n h2
    rcases Nat.lt_or_ge n cur.size with q | q
    · exact q
    · rw [Array.getElem?_eq_none q] at this; cases this
  refine ⟨by simp [World.cell?, hc4, hk n h2], by simp [World.frozen?, hc4], ⟨h.told.snoc h1 h2 hn hA hB, ?_, ⟨cur.set! n (.int .i64 ((o.length : Int) + 1)), ?_, fun k hkl => ?_⟩, h.low, ?_⟩, ?_, fun k hk => ?_⟩
  · exact hr.keep fun k hk => Below.heap_setCell _ _ _ _ (fun c => hvg (by rw [hk, c]))
  · simp [World.setCell, Array.getElem?_modify, hc4]
  · rw [pos_snoc hn]
    by_cases c : k = n
    · subst c; rw [if_pos rfl]; simp [hlt]
    · rw [if_neg c]
      have : n ≠ k := fun e => c e.symm
      simp [this, hk k hkl]
  · have b4 : Below w.heap.size w w4 := (h.bel.alloc hs ob).grown hg (by simp; omega) (fun k hk => (h.rl.lt k hk).1)
    exact b4.setCell h.low _
  · exact (f1.mono (fun x _ c => List.mem_cons_of_mem _ c)).setCell (Or.inr (by simp)) _
  · rcases hat with c | c
    · left; rw [← c]; exact hk
    · right; rw [c] at hk; simp at hk; omega

theorem ret_put {a b : Value} : Ending.returned (.tuple #[a, b]) = .returned (.tuple #[a, b]) := rfl

set_option maxRecDepth 100000 in
set_option maxHeartbeats 8000000 in
theorem put_any (w : World) (rb : Nat) (rv : Value) (L : List Tm) (h : Rs w rb rv L) (gt ct : Nat) (f : Nat) : ∀ (n : Nat), n ≤ f → n ≤ L.length → ∀ (wr : World) (ov : Value) (o : List Nat), Pt w wr L ov gt o →
    Calls Tryz.prog 22 #[.pointer (some ⟨rb, 0, none⟩), .int .i64 (n : Int), ov, .slice (some ⟨gt, 0, none⟩) (L.length + 1) ct] wr fun e w' => ∃ ov', e = .returned (.tuple #[ov', .slice (some ⟨gt, 0, none⟩) (L.length + 1) ct]) ∧ Pt w w' L ov' gt (ordF L f n o) ∧ PStep wr w' gt ov ov' := by
  induction f with
  | zero =>
    intro n hn _ wr ov o hP
    obtain rfl : n = 0 := by omega
    have HP := hide hP
    clear hP hn h
    go_enter Tryz.func22, Tryz.ntmps22
    go_wp2
    go_ret2
    exact ⟨ov, rfl, unhide HP, PStep.refl _ _ _⟩
  | succ f ih =>
    intro n hnf hnl wr ov o hP
    by_cases hskip : n = 0 ∨ n ∈ o
    · have e : ordF L (f + 1) n o = o := ordF_skip L _ n o hskip
      rw [e]
      have HP := hide hP
      have hc := (hP.cell hnl).1
      have hpp : n = 0 ∨ 1 ≤ pos o n := hskip.imp id (fun c => (pos_pos c).2)
      have hll := h.len
      have hnb : (n : Int) ≤ 1048577 := by omega
      obtain ⟨N, hN⟩ : ∃ N, N = L.length + 1 := ⟨_, rfl⟩
      rw [← hN]
      have hnN : (n : Int) < (N : Int) := by omega
      have hNb : (N : Int) ≤ 1048577 := by omega
      generalize pos o n = pn at *
      clear e ih hskip hP h hN hll hnl hnf
      by_cases h0 : n = 0
      · subst h0
        go_enter Tryz.func22, Tryz.ntmps22
        go_wp2
        go_ret2
        exact ⟨ov, rfl, unhide HP, PStep.refl _ _ _⟩
      · have z1 : ((n : Int) == 0) = false := by rw [beq_eq_false_iff_ne]; omega
        have z2 : (0 : Int) < (pn : Int) := by omega
        clear hpp h0
        go_enter Tryz.func22, Tryz.ntmps22
        go_wp2
        go_ret2
        exact ⟨ov, rfl, unhide HP, PStep.refl _ _ _⟩
    · have h0 : n ≠ 0 := fun c => hskip (Or.inl c)
      have hno : n ∉ o := fun c => hskip (Or.inr c)
      obtain ⟨i, rfl⟩ : ∃ i, n = i + 1 := ⟨n - 1, by omega⟩
      have e : ordF L (f + 1) (i + 1) o = ordF L f (pB L (i + 1)) (ordF L f (pA L (i + 1)) o) ++ [i + 1] := ordF_step L f (i + 1) o hskip
      rw [e]
      have hG := h.good
      obtain ⟨p1, p2⟩ := hG.parts (m := i + 1) (by omega) hnl
      obtain ⟨ta, tb⟩ := hG.tmAt_parts (m := i + 1) (by omega) hnl
      have hti : L[i]? = some (tmAt L (i + 1)) := by simp [tmAt, List.getD, List.getElem?_eq_getElem (show i < L.length by omega)]
      have hR := h.bw hP.bel
      obtain ⟨c0, _⟩ := hR.cells
      have hbw := lt_of_blk hR.blk
      have hll := h.len
      obtain ⟨g, cap, rfl, hgw, t0, t1, t2, t3⟩ : ∃ g cap, rv = .slice (some ⟨g, 0, none⟩) L.length cap ∧ g < wr.heap.size ∧ TAt wr g (i * 4) (tmAt L (i + 1)) := by
        rcases hR.row.form with ⟨_, c⟩ | ⟨g, cap, hv, _, hg, _⟩
        · rw [c] at hti; simp at hti
        · exact ⟨g, cap, hv, hg, hR.row.at (by rw [hv]; rfl) hti⟩
      rw [ta] at t2
      rw [tb] at t3
      have hcn := (hP.cell hnl).1
      rw [pos_zero.2 hno] at hcn
      have KA := ih (pA L (i + 1)) (by omega) (by omega)
      have KB := ih (pB L (i + 1)) (by omega) (by omega)
      have hT1 := fun o (ht : Told L o) => ordF_told hG f (pA L (i + 1)) o (by omega) (by omega) ht
      have hT2 := fun o (ht : Told L o) => ordF_told hG f (pB L (i + 1)) o (by omega) (by omega) ht
      have hn2 : i + 1 ∉ ordF L f (pB L (i + 1)) (ordF L f (pA L (i + 1)) o) := not_mem_part hG hnl (not_mem_part hG hnl hno p1) p2
      have hA2 : pA L (i + 1) = 0 ∨ pA L (i + 1) ∈ ordF L f (pB L (i + 1)) (ordF L f (pA L (i + 1)) o) := by
        by_cases c : pA L (i + 1) = 0
        · exact Or.inl c
        · exact Or.inr (ordF_sub (ordF_mem (by omega) (by omega)))
      have hB2 : pB L (i + 1) = 0 ∨ pB L (i + 1) ∈ ordF L f (pB L (i + 1)) (ordF L f (pA L (i + 1)) o) := by
        by_cases c : pB L (i + 1) = 0
        · exact Or.inl c
        · exact Or.inr (ordF_mem (by omega) (by omega))
      have etr : ∀ o2, tr o2 (tmAt L (i + 1)) = ⟨(tmAt L (i + 1)).kd, (tmAt L (i + 1)).n, (pos o2 (pA L (i + 1)) : Nat), (pos o2 (pB L (i + 1)) : Nat)⟩ := fun o2 => tr_at L o2 (i + 1)
      have hA3 : pA L (i + 1) ≤ L.length := by omega
      have hB3 : pB L (i + 1) ≤ L.length := by omega
      obtain ⟨i0, hi, hz0, hz1, hz2⟩ := info_parts Tryz.infoTerm
      have hpA : ∀ x, x = pA L (i + 1) → (x : Int) < (i : Int) + 1 := fun x hx => by omega
      have hpB : ∀ x, x = pB L (i + 1) → (x : Int) < (i : Int) + 1 := fun x hx => by omega
      have gA := hpA _ rfl
      have gB := hpB _ rfl
      have HP := hide hP
      have hgt := hP.lt
      have hiL : (i : Int) < (L.length : Int) := by omega
      have hLb : (L.length : Int) ≤ 1048577 := by omega
      have HKA := hide KA
      have HKB := hide KB
      have HX := hide (And.intro hn2 (And.intro hA2 (And.intro hB2 (And.intro etr (And.intro hA3 (And.intro hB3 hnl))))))
      clear e hG p1 p2 ta tb hti hR hP hno hskip h0 h KA KB hT1 hT2 hn2 hA2 hB2 etr hA3 hB3 ih hll hpA hpB hnf hnl
      generalize (tmAt L (i + 1)).kd = kd at *
      generalize (tmAt L (i + 1)).n = nn at *
      obtain ⟨A, hAe⟩ : ∃ A, A = pA L (i + 1) := ⟨_, rfl⟩
      obtain ⟨B, hBe⟩ : ∃ B, B = pB L (i + 1) := ⟨_, rfl⟩
      rw [← hAe, ← hBe] at HX ⊢
      rw [← hAe] at HKA
      rw [← hBe] at HKB
      rw [← hAe] at gA t2
      rw [← hBe] at gB t3
      have HAB := hide (And.intro hAe hBe)
      clear hAe hBe
      obtain ⟨N, hN⟩ : ∃ N, N = L.length + 1 := ⟨_, rfl⟩
      obtain ⟨M, hM⟩ : ∃ M, M = L.length := ⟨_, rfl⟩
      rw [← hM] at c0 hiL hLb
      have HNM := hide (And.intro hN hM)
      have hNM : (N : Int) = (M : Int) + 1 := by omega
      have hiN : (i : Int) + 1 < (N : Int) := by omega
      have hNb : (N : Int) ≤ 1048578 := by omega
      have hAN : (A : Int) < (N : Int) := by omega
      have hBN : (B : Int) < (N : Int) := by omega
      rw [← hN]
      clear hN hM hNM
      have P1 := (unhide HP).new (bw_alloc wr (.cells #[.int .u8 kd, .int .i64 nn, .int .i64 (A : Int), .int .i64 (B : Int)] 69))
      have K1 := unhide HKA _ ov o P1
      rw [← (unhide HNM).1] at K1
      have hbx : (wr.alloc (.cells #[.int .u8 kd, .int .i64 nn, .int .i64 (A : Int), .int .i64 (B : Int)] 69)).heap[wr.heap.size]? = some (.cells #[.int .u8 kd, .int .i64 nn, .int .i64 (A : Int), .int .i64 (B : Int)] 69 (0, 0)) := heap_alloc_new _ _
      have HBX := hide (And.intro hbx P1)
      clear P1 hbx HKA
      go_enter Tryz.func22, Tryz.ntmps22
      go_wp2_with fail
      refine K1.mono ?_
      rintro e w1 ⟨ov1, rfl, P1, s1⟩
      have hov := (unhide HP).rl.lt
      have hb1 : w1.heap[wr.heap.size]? = some (.cells #[.int .u8 kd, .int .i64 nn, .int .i64 (A : Int), .int .i64 (B : Int)] 69 (0, 0)) := by
        rw [s1.fr.block _ (by simp) (fun c => by
          rcases List.mem_cons.1 c with c | c
          · omega
          · have := (hov _ (by simpa using c)).2; omega)]
        exact (unhide HBX).1
      have hd1 : ov1.ownBlock ≠ some wr.heap.size := fun c => by
        rcases s1.place _ c with q | q
        · have := (hov _ q).2; omega
        · simp at q; omega
      have hz1' := s1.fr.size
      have x3 : w1.cell? ⟨wr.heap.size, 3, none⟩ = some (.int .i64 (B : Int)) := by simp [World.cell?, hb1]
      have K2 := unhide HKB _ ov1 _ P1
      rw [← (unhide HNM).1] at K2
      have HS1 := hide (And.intro P1 (And.intro s1 (And.intro hb1 (And.intro hd1 hz1'))))
      clear P1 s1 hb1 hd1 hz1' K1 hov HKB c0 t0 t1 t2 t3 hcn
      go_wp2_with fail
      refine K2.mono ?_
      rintro e w2 ⟨ov2, rfl, P2, s2⟩
      obtain ⟨P1, s1, hb1, hd1, hz1'⟩ := unhide HS1
      have hw1 : wr.heap.size < w1.heap.size := by simp at hz1'; omega
      have hb2 : w2.heap[wr.heap.size]? = some (.cells #[.int .u8 kd, .int .i64 nn, .int .i64 (A : Int), .int .i64 (B : Int)] 69 (0, 0)) := by
        rw [s2.fr.block _ hw1 (fun c => by
          rcases List.mem_cons.1 c with c | c
          · omega
          · exact hd1 (by simpa using c))]
        exact hb1
      have hd2 : ov2.ownBlock ≠ some wr.heap.size := fun c => by
        rcases s2.place _ c with q | q
        · exact hd1 q
        · omega
      have hw2 : wr.heap.size < w2.heap.size := Nat.lt_of_lt_of_le hw1 s2.fr.size
      have hbelr := (unhide HP).bel.size
      have y2 : w2.cell? ⟨wr.heap.size, 2, none⟩ = some (.int .i64 (A : Int)) := by simp [World.cell?, hb2]
      have yf : ∀ j, w2.frozen? ⟨wr.heap.size, j, none⟩ = false := fun j => by simp [World.frozen?, hb2]
      have cA := (P2.cell (unhide HX).2.2.2.2.1).1
      obtain ⟨o2, ho2⟩ : ∃ o2, o2 = ordF L f B (ordF L f A o) := ⟨_, rfl⟩
      rw [← ho2] at cA P2 HX
      generalize hPA : pos o2 A = PA at *
      have P3 := P2.box (x := wr.heap.size) (j := 2) (by omega) hd2 hbelr (.int .i64 (PA : Int))
      have hb3 : (w2.setCell ⟨wr.heap.size, 2, none⟩ (.int .i64 (PA : Int))).heap[wr.heap.size]? = some (.cells #[.int .u8 kd, .int .i64 nn, .int .i64 (PA : Int), .int .i64 (B : Int)] 69 (0, 0)) := by
        simp [World.setCell, Array.getElem?_modify, hb2]
      have cB := (P3.cell (unhide HX).2.2.2.2.2.1).1
      generalize hPB : pos o2 B = PB at *
      have y3 : (w2.setCell ⟨wr.heap.size, 2, none⟩ (.int .i64 (PA : Int))).cell? ⟨wr.heap.size, 3, none⟩ = some (.int .i64 (B : Int)) := by simp [World.cell?, hb3]
      have P4 := P3.box (x := wr.heap.size) (j := 3) (by omega) hd2 hbelr (.int .i64 (PB : Int))
      have hb4 : ((w2.setCell ⟨wr.heap.size, 2, none⟩ (.int .i64 (PA : Int))).setCell ⟨wr.heap.size, 3, none⟩ (.int .i64 (PB : Int))).heap[wr.heap.size]? = some (.cells #[.int .u8 kd, .int .i64 nn, .int .i64 (PA : Int), .int .i64 (PB : Int)] 69 (0, 0)) := by
        simp [World.setCell, Array.getElem?_modify, hb2]
      have s02 : PStep wr w2 gt ov ov2 := (PStep.ofBelow gt ov (bw_alloc wr _)).trans (s1.trans s2)
      have s04 : PStep wr ((w2.setCell ⟨wr.heap.size, 2, none⟩ (.int .i64 (PA : Int))).setCell ⟨wr.heap.size, 3, none⟩ (.int .i64 (PB : Int))) gt ov ov2 := ⟨(s02.fr.setCell (Or.inl (Nat.le_refl _)) _).setCell (Or.inl (Nat.le_refl _)) _, s02.place⟩
      have HR := hide (And.intro hPA (And.intro hPB (And.intro P4 s04)))
      have cellsB : ∀ (W : World), W = (w2.setCell ⟨wr.heap.size, 2, none⟩ (.int .i64 (PA : Int))).setCell ⟨wr.heap.size, 3, none⟩ (.int .i64 (PB : Int)) → W.cell? ⟨wr.heap.size, 0, none⟩ = some (.int .u8 kd) ∧ W.cell? ⟨wr.heap.size, 1, none⟩ = some (.int .i64 nn) ∧ W.cell? ⟨wr.heap.size, 2, none⟩ = some (.int .i64 (PA : Int)) ∧ W.cell? ⟨wr.heap.size, 3, none⟩ = some (.int .i64 (PB : Int)) := fun W e => by
        subst e; simp [World.cell?, hb4]
      obtain ⟨W, hW⟩ : ∃ W, W = (w2.setCell ⟨wr.heap.size, 2, none⟩ (.int .i64 (PA : Int))).setCell ⟨wr.heap.size, 3, none⟩ (.int .i64 (PB : Int)) := ⟨_, rfl⟩
      obtain ⟨v0, v1, v2, v3⟩ := cellsB W hW
      rw [← hW] at HR
      have HO := hide (And.intro ho2 hW)
      clear P1 s1 hb1 hd1 hz1' hw1 hb2 hd2 P3 hb3 P4 hb4 s02 s04 hPA hPB P2 s2 K2 HS1 cellsB ho2
      go_upto_region 8 with fail
      rw [← hW]
      clear hW y2 y3 yf cA cB
      obtain ⟨ol, hol⟩ : ∃ ol, ol = (outs L o2).length := ⟨_, rfl⟩
      have hrow : W.ownsRow w.heap.size 69 4 ov2 ol ((outs L o2).flatMap tmC) := by rw [hol]; exact (unhide HR).2.2.1.rl
      have hol2 : ol = o2.length := by rw [hol, outs_len]
      have hob : (ol : Int) ≤ 1048577 := by
        have := (unhide HR).2.2.1.told.len
        have := (unhide HNM).2
        omega
      have hws := (unhide HR).2.2.1.bel.size
      have HOL := hide (And.intro hol hol2)
      clear hol hol2
      go_wp2_with (at_builtin; refine wpList_append_own_at _ rfl (.tmp 60) (.tmp 62) 22 rfl w.heap.size 69 i0 (.agg #[.int .u8 0, .int .i64 0, .int .i64 0, .int .i64 0]) 4 32 Tryz.underlying22 hi hz0 hz1 hz2 rfl (by decide) _ ol _ rfl (World.ownsRow.alloc hrow _) ⟨W.heap.size, 0, none⟩ 1 1 [.int .u8 kd, .int .i64 nn, .int .i64 (PA : Int), .int .i64 (PB : Int)] rfl rfl (cells_new4 _ _ _ _ _ _) (tmC_one ⟨kd, nn, PA, PB⟩) ?c3 ?c4 ?c5 ?nx)
      case c3 => unfold maxLen; omega
      case c4 => omega
      case c5 => simp; omega
      case nx =>
        intro v' w4 hown' hgrow _ hat
        obtain ⟨g', cap', rfl⟩ := own_form hown'
        obtain ⟨hPA, hPB, P4, s04⟩ := unhide HR
        obtain ⟨hn2, hA2, hB2, etr, _, _, hnl⟩ := unhide HX
        have hfin := P4.tell (n := i + 1) (by omega) hnl hn2 (by rw [← (unhide HAB).1]; exact hA2) (by rw [← (unhide HAB).2]; exact hB2) (by rw [← (unhide HOL).1, etr, hPA, hPB]; exact hown') hgrow (by simpa using hat)
        obtain ⟨q1, q2, q3, q4⟩ := hfin
        rw [← (unhide HOL).2] at q3 q4
        obtain ⟨vv, hvv⟩ := Option.isSome_iff_exists.1 q1
        have hgrown : Pt w (w4.setCell ⟨gt, i + 1, none⟩ (.int .i64 ((ol : Int) + 1))) L (.slice (some ⟨g', 0, none⟩) (ol + 1) cap') gt (ordF L f B (ordF L f A o) ++ [i + 1]) := by
          rw [← (unhide HO).1]; exact q3
        have HFI := hide (And.intro hgrown (s04.trans q4))
        clear hgrown q1 q3 q4 hown' hgrow hat hPA hPB P4 s04 hn2 hA2 hB2 etr hnl HR HX HP HBX hrow
        go_wp2_with fail
        go_ret2
        exact ⟨_, rfl, (unhide HFI).1, (unhide HFI).2⟩

end Go.Proofs.YtfpimmbjjcpobaaGreatDoor
