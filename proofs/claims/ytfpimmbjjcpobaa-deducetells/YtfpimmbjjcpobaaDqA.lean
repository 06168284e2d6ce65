/- What the document has as known, in memory; contracts of has, makes and give. -/
import Derived.Test.YtfpimmbjjcpobaaDqPure
import Derived.Test.YtfpimmbjjcpobaaDdB
import Derived.Test.YtfpimmbjjcpobaaTmR
namespace Go.Proofs.Ytfpimmbjjcpobaa
open Go.RowKit Go.Maps

/-- The contract of the document's Get. -/
theorem rget_nat (b : Nat) (sv : Value) (L : List Tm) (m : Nat) (w : World) (h : Rs w b sv L) (h1 : 1 ≤ m) (h2 : m ≤ L.length) :
    Calls Try.prog 47 #[.pointer (some ⟨b, 0, none⟩), .int .i64 (m : Int)] w fun e w' => e = .returned (.tuple #[.agg #[.int .u8 (kdOf L m), .int .i64 (tmAt L m).n, .int .i64 (pA L m : Int), .int .i64 (pB L m : Int)], .bool true]) ∧ Below w.heap.size w w' := by
  obtain ⟨e1, e2, e3, e4⟩ := getT_nat h.good h1 h2
  have K := there_any b sv L m _ (h.bw ((Below.refl w.heap.size w).alloc (Nat.le_refl _) (.cells #[.int .u8 0, .int .i64 0, .int .i64 0, .int .i64 0] 46)))
  rw [e1] at K
  obtain ⟨i, rfl⟩ : ∃ i, m = i + 1 := ⟨m - 1, by omega⟩
  have hti : L[i]? = some (tmAt L (i + 1)) := tmAt_get (m := i + 1) (by omega) h2
  have hl := h.len
  obtain ⟨c0, _⟩ := h.cells
  have hbw := lt_of_blk h.blk
  obtain ⟨g, cap, rfl, hg, t0, t1, t2, t3⟩ : ∃ g cap, sv = .slice (some ⟨g, 0, none⟩) L.length cap ∧ g < w.heap.size ∧ TAt w g (i * 4) (tmAt L (i + 1)) := by
    rcases h.row.form with ⟨_, c⟩ | ⟨g, cap, hv, _, hg, _⟩
    · rw [c] at h2; simp at h2
    · exact ⟨g, cap, hv, hg, h.row.at (by rw [hv]; rfl) hti⟩
  have hlt' : (i : Int) < (L.length : Int) := by omega
  rw [e3] at t2
  rw [e4] at t3
  unfold kdOf
  clear e1 e2 e3 e4 h hti h1 h2
  generalize (tmAt L (i + 1)).kd = kd at *
  generalize (tmAt L (i + 1)).n = nn at *
  generalize pA L (i + 1) = A at *
  generalize pB L (i + 1) = B at *
  generalize L.length = N at *
  go_enter Try.func47, Try.ntmps47
  go_wp2_with fail
  refine K.mono ?_
  rintro e w1 ⟨rfl, rfl⟩
  go_wp2
  exact bodyPost_ret (v := .tuple #[.agg #[.int .u8 kd, .int .i64 nn, .int .i64 (A : Int), .int .i64 (B : Int)], .bool true]) (by simp [results, Try.results47, go_sem]) rfl ⟨rfl, (Below.refl _ _).alloc (Nat.le_refl _) _⟩

structure Kq (w : World) (qb : Nat) (gv : Value) (rb : Nat) (G : List Bool) : Prop where
  blk : w.heap[qb]? = some (.cells #[.pointer (some ⟨rb, 0, none⟩), gv] 68 (0, 0))
  rg : BRow w gv G
def qfoot (qb : Nat) (gv : Value) : List Nat := qb :: gv.ownBlock.toList
theorem mem_qfoot {qb : Nat} {gv : Value} {x : Nat} : x ∈ qfoot qb gv ↔ x = qb ∨ gv.ownBlock = some x := by simp [qfoot, eq_comm]
theorem Kq.lt {w : World} {qb : Nat} {gv : Value} {rb : Nat} {G : List Bool} (h : Kq w qb gv rb G) : ∀ x ∈ qfoot qb gv, x < w.heap.size := by
  intro x hx
  rcases mem_qfoot.1 hx with rfl | hx
  · exact lt_of_blk h.blk
  · exact (World.ownsRow.lt h.rg x hx).2
theorem qkinds_ne : (4 : TypeId) ≠ 68 := by decide
theorem Kq.apart {w : World} {qb : Nat} {gv : Value} {rb : Nat} {G : List Bool} (h : Kq w qb gv rb G) : gv.ownBlock ≠ some qb := own_block_ne h.rg h.blk qkinds_ne
theorem Kq.keep {w w' : World} {qb : Nat} {gv : Value} {rb : Nat} {G : List Bool} {S : List Nat} (h : Kq w qb gv rb G) (hf : Fr S w w') (hd : ∀ x ∈ qfoot qb gv, x ∉ S) : Kq w' qb gv rb G := by
  have hb : ∀ x ∈ qfoot qb gv, w'.heap[x]? = w.heap[x]? := fun x hx => hf.block x (h.lt x hx) (hd x hx)
  exact ⟨by rw [hb qb (mem_qfoot.2 (Or.inl rfl))]; exact h.blk, own_keep h.rg (fun k hk => hb k (mem_qfoot.2 (Or.inr hk)))⟩
theorem Kq.bw {w w' : World} {qb : Nat} {gv : Value} {rb : Nat} {G : List Bool} (h : Kq w qb gv rb G) (hb : Below w.heap.size w w') : Kq w' qb gv rb G := h.keep (Fr.ofBelow hb) (by simp)
theorem Kq.cells {w : World} {qb : Nat} {gv : Value} {rb : Nat} {G : List Bool} (h : Kq w qb gv rb G) : w.cell? ⟨qb, 0, none⟩ = some (.pointer (some ⟨rb, 0, none⟩)) ∧ w.cell? ⟨qb, 1, none⟩ = some gv ∧ ∀ j, w.frozen? ⟨qb, j, none⟩ = false := by
  refine ⟨?_, ?_, fun j => ?_⟩ <;> simp [World.cell?, World.frozen?, h.blk]
theorem Kq.marks {w : World} {qb : Nat} {gv : Value} {rb : Nat} {G : List Bool} (h : Kq w qb gv rb G) (h0 : 0 < G.length) :
    ∃ g cap, gv = .slice (some ⟨g, 0, none⟩) G.length cap ∧ g < w.heap.size ∧ (∀ m, m < G.length → w.cell? ⟨g, m, none⟩ = some (.bool (onB G m))) ∧ (∀ j, w.frozen? ⟨g, j, none⟩ = false) ∧ qb ≠ g ∧ qb < w.heap.size := by
  obtain ⟨g, cap, hv, hg, _, _⟩ := own_open h.rg h0
  refine ⟨g, cap, hv, hg, fun m hm => h.rg.cell (by rw [hv]; rfl) hm, own_frozen h.rg (by rw [hv]; rfl), fun c => ?_, lt_of_blk h.blk⟩
  have := h.apart
  rw [hv] at this
  exact this (by rw [c]; rfl)
theorem Kq.set {w : World} {qb g n cap : Nat} {rb : Nat} {G : List Bool} (h : Kq w qb (.slice (some ⟨g, 0, none⟩) n cap) rb G) (m : Nat) : Kq (w.setCell ⟨g, m, none⟩ (.bool true)) qb (.slice (some ⟨g, 0, none⟩) n cap) rb (G.set m true) ∧ Fr (qfoot qb (.slice (some ⟨g, 0, none⟩) n cap)) w (w.setCell ⟨g, m, none⟩ (.bool true)) := by
  refine ⟨⟨?_, h.rg.set rfl true⟩, (Fr.refl _ w).setCell (Or.inr (mem_qfoot.2 (Or.inr rfl))) _⟩
  rw [Below.heap_setCell _ _ _ _ (fun c => h.apart (by rw [c]; rfl))]; exact h.blk

set_option maxHeartbeats 1000000 in
theorem qhas_any (qb : Nat) (gv : Value) (rb : Nat) (G : List Bool) (m : Nat) (w : World) (h : Kq w qb gv rb G) (hm : m < G.length) (hG : G.length ≤ 1048577) :
    Calls Try.prog 48 #[.pointer (some ⟨qb, 0, none⟩), .int .i64 (m : Int)] w fun e w' => e = .returned (.bool (hs0 G m)) ∧ w' = w := by
  obtain ⟨_, c1, _⟩ := h.cells
  obtain ⟨g, cap, rfl, hg, hmk, _⟩ := h.marks (by omega)
  have mm := hmk m hm
  have hm' : (m : Int) < (G.length : Int) := by omega
  have hG' : (G.length : Int) ≤ 1048577 := by omega
  clear h hmk hG
  by_cases e0 : m = 0
  · subst e0
    have e : hs0 G 0 = true := by simp [hs0]
    rw [e]
    generalize G.length = N at *
    go_enter Try.func48, Try.ntmps48
    go_wp2
    go_ret
    exact ⟨rfl, rfl⟩
  · have e : hs0 G m = onB G m := by simp [hs0, e0]
    rw [e]
    generalize onB G m = ob at *
    generalize G.length = N at *
    have z1 : ((m : Int) == 0) = false := by simp; omega
    have z2 : ¬ ((m : Int) = 0) := by omega
    have z3 : decide ((m : Int) = 0) = false := by simp; omega
    clear e
    go_enter Try.func48, Try.ntmps48
    go_wp2
    go_ret
    exact ⟨rfl, rfl⟩

/-- The kind 2 has no parts. -/
theorem data_parts {L : List Tm} (h : Good L) {m : Nat} (h1 : 1 ≤ m) (h2 : m ≤ L.length) (hk : kdOf L m = 2) : pA L m = 0 ∧ pB L m = 0 := by
  have hm := goodAt h h1 h2
  unfold kdOf at hk
  unfold may at hm
  rw [if_neg (by rw [hk]; decide), if_pos hk] at hm
  simp only [Bool.and_eq_true, decide_eq_true_eq] at hm
  unfold pA pB
  omega

set_option maxRecDepth 100000 in
set_option maxHeartbeats 4000000 in
theorem makes_any (qb : Nat) (gv : Value) (rb : Nat) (rv : Value) (G : List Bool) (L : List Tm) (m : Nat) (w : World) (h : Kq w qb gv rb G) (hS : Rs w rb rv L) (hGl : G.length = L.length + 1) (h1 : 1 ≤ m) (h2 : m ≤ L.length) :
    Calls Try.prog 44 #[.pointer (some ⟨qb, 0, none⟩), .int .i64 (m : Int)] w fun e w' => e = .returned (.bool (mkR L G m)) ∧ Below w.heap.size w w' := by
  have KG := rget_nat rb rv L m w hS h1 h2
  have hL := hS.len
  obtain ⟨c0, _, _⟩ := h.cells
  obtain ⟨hp1, hp2⟩ := hS.good.parts h1 h2
  have hdp := data_parts hS.good h1 h2
  obtain ⟨r, hr⟩ : ∃ r, r = mkR L G m := ⟨_, rfl⟩
  rw [← hr]
  unfold mkR at hr
  obtain ⟨kd, u0⟩ : ∃ x, x = kdOf L m := ⟨_, rfl⟩
  obtain ⟨nn, u1⟩ : ∃ x, x = (tmAt L m).n := ⟨_, rfl⟩
  obtain ⟨A, u2⟩ : ∃ x, x = pA L m := ⟨_, rfl⟩
  obtain ⟨B, u3⟩ : ∃ x, x = pB L m := ⟨_, rfl⟩
  rw [← u0, ← u1, ← u2, ← u3] at KG
  rw [← u0, ← u2, ← u3] at hr
  rw [← u2] at hp1
  rw [← u3] at hp2
  rw [← u0, ← u2, ← u3] at hdp
  have KA : ∀ V, Below w.heap.size w V → _ := fun V hV => qhas_any qb gv rb G A V (h.bw hV) (by omega) (by omega)
  have KB : ∀ V, Below w.heap.size w V → _ := fun V hV => qhas_any qb gv rb G B V (h.bw hV) (by omega) (by omega)
  have HKA := hide KA
  have HKB := hide KB
  clear KA KB h hS hGl h1 h2 hp1 hp2 u0 u1 u2 u3
  by_cases k2 : kd = 2
  · obtain ⟨rfl, rfl⟩ := hdp k2
    subst k2
    have e : r = true := by rw [hr]; simp [hs0]
    subst e
    clear hr hdp
    go_enter Try.func44, Try.ntmps44
    go_wp2_with fail
    refine KG.mono ?_
    rintro e w1 ⟨rfl, b1⟩
    have b2 := b1.alloc b1.size (.cells #[.int .u8 2, .int .i64 nn, .int .i64 0, .int .i64 0] 46)
    go_wp2_with fail
    go_ret
    exact ⟨rfl, b2⟩
  · have z1 : (kd == 2) = false := by simp [k2]
    have z2 : decide (kd = 2) = false := by simp [k2]
    by_cases k1 : kd = 1
    · subst k1
      have e : r = false := by rw [hr]; simp
      subst e
      clear hr hdp
      go_enter Try.func44, Try.ntmps44
      go_wp2_with fail
      refine KG.mono ?_
      rintro e w1 ⟨rfl, b1⟩
      have b2 := b1.alloc b1.size (.cells #[.int .u8 1, .int .i64 nn, .int .i64 (A : Int), .int .i64 (B : Int)] 46)
      go_wp2_with fail
      go_ret
      exact ⟨rfl, b2⟩
    · have y1 : (kd == 1) = false := by simp [k1]
      have y2 : decide (kd = 1) = false := by simp [k1]
      rw [y2] at hr
      simp only [Bool.not_false, Bool.true_and] at hr
      generalize hs0 G A = ha at *
      generalize hs0 G B = hb at *
      have HR := hide hr
      clear hr hdp
      go_enter Try.func44, Try.ntmps44
      go_wp2_with fail
      refine KG.mono ?_
      rintro e w1 ⟨rfl, b1⟩
      have b2 := b1.alloc b1.size (.cells #[.int .u8 kd, .int .i64 nn, .int .i64 (A : Int), .int .i64 (B : Int)] 46)
      have KA := unhide HKA _ b2
      have KB := unhide HKB _ b2
      clear KG
      go_wp2_with fail
      refine KA.mono ?_
      rintro e w2 ⟨rfl, rfl⟩
      clear KA
      cases ha
      · clear KB
        go_wp2_with fail
        go_ret
        exact ⟨by rw [unhide HR]; rfl, b2⟩
      · go_wp2_with fail
        refine KB.mono ?_
        rintro e w3 ⟨rfl, rfl⟩
        clear KB
        go_wp2_with fail
        go_ret
        exact ⟨by rw [unhide HR]; rfl, b2⟩

end Go.Proofs.Ytfpimmbjjcpobaa
