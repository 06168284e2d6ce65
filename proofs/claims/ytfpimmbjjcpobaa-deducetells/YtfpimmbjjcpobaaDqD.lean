/- Contracts of the document's New, grow and Has of what is known. -/
import Derived.Test.YtfpimmbjjcpobaaDqC
import Derived.Test.YtfpimmbjjcpobaaDdH
namespace Go.Proofs.Ytfpimmbjjcpobaa
open Go.RowKit Go.Maps

/-- What is known, by the document: it may have read less than all; if it has read all, it tells. -/
def QS (w : World) (qb rb : Nat) (L : List Tm) (K : Nat → Prop) (Z : List Nat) : Prop :=
  ∃ gv G, Z = qfoot qb gv ∧ Kq w qb gv rb G ∧ 1 ≤ G.length ∧ G.length ≤ L.length + 1 ∧ (∀ m, 1 ≤ m → On G m → Fol L K m) ∧ (∀ m, K m → 1 ≤ m → On G m) ∧ (G.length = L.length + 1 → ∀ m, 1 ≤ m → m ≤ L.length → Okm L G m)
theorem QS.keep {w w' : World} {qb rb : Nat} {L : List Tm} {K : Nat → Prop} {Z S : List Nat} (h : QS w qb rb L K Z) (hf : Fr S w w') (hd : ∀ x ∈ Z, x ∉ S) : QS w' qb rb L K Z := by
  obtain ⟨gv, G, rfl, h1, h2⟩ := h
  exact ⟨gv, G, rfl, h1.keep hf hd, h2⟩
theorem QS.lt {w : World} {qb rb : Nat} {L : List Tm} {K : Nat → Prop} {Z : List Nat} (h : QS w qb rb L K Z) : ∀ x ∈ Z, x < w.heap.size := by
  obtain ⟨gv, G, rfl, h1, h2⟩ := h
  exact h1.lt
theorem QS.ext {w : World} {qb rb : Nat} {L : List Tm} {K : Nat → Prop} {Z : List Nat} (h : QS w qb rb L K Z) (hG : Good L) (r : List Tm) : QS w qb rb (L ++ r) K Z := by
  obtain ⟨gv, G, rfl, h1, h0, h2, h3, h4, h5⟩ := h
  refine ⟨gv, G, rfl, h1, h0, by simp; omega, fun m q1 q2 => (h3 m q1 q2).ext hG r, h4, fun e => ?_⟩
  have : r = [] := by
    cases r with
    | nil => rfl
    | cons x r => simp at e; omega
  subst this
  rw [List.append_nil] at e ⊢
  exact h5 e

theorem Kq.grown {w w0 w1 : World} {qb : Nat} {gv v1 : Value} {rb : Nat} {G : List Bool} {x : Bool} (h : Kq w qb gv rb G) (h0 : Fr [] w w0) (hown : w1.ownsRow 0 4 1 v1 (G.length + 1) (G.map .bool ++ [.bool x])) (hg : w0.grownBy w1 gv.ownBlock) (hat : v1.ownBlock = gv.ownBlock ∨ v1.ownBlock = some w0.heap.size) :
    Kq (w1.setCell ⟨qb, 1, none⟩ v1) qb v1 rb (G ++ [x]) ∧ Mv w (w1.setCell ⟨qb, 1, none⟩ v1) (qfoot qb gv) (qfoot qb v1) ∧ w1.cell? ⟨qb, 1, none⟩ = some gv ∧ w1.frozen? ⟨qb, 1, none⟩ = false ∧ (∃ g cap, v1 = .slice (some ⟨g, 0, none⟩) (G.length + 1) cap) := by
  have a1 := h.apart
  have hk := lt_of_blk h.blk
  have hs := h0.size
  have hb1 : w1.heap[qb]? = some (.cells #[.pointer (some ⟨rb, 0, none⟩), gv] 68 (0, 0)) := by
    rw [hg.block qb (by omega) (fun c => a1 c.symm), h0.block qb hk (by simp)]; exact h.blk
  have hv1 : v1.ownBlock ≠ some qb := by
    rcases hat with c | c
    · rw [c]; exact a1
    · rw [c]; intro e; simp at e; omega
  refine ⟨⟨by simp [World.setCell, Array.getElem?_modify, hb1], ?_⟩, ⟨?_, fun k hk' => ?_⟩, by simp [World.cell?, hb1], by simp [World.frozen?, hb1], own_form hown⟩
  · have hr : BRow w1 v1 (G ++ [x]) := by unfold BRow; rw [List.length_append]; simpa using hown
    exact own_keep hr fun k hk => Below.heap_setCell _ _ _ _ (fun c => hv1 (by rw [hk, c]))
  · have hF : Fr (qfoot qb gv) w w1 := h0.trans (Fr.ofGrown hg) (fun _ _ c => by cases c) (fun y _ c => mem_qfoot.2 (Or.inr (by simpa using c)))
    exact hF.setCell (Or.inr (mem_qfoot.2 (Or.inl rfl))) _
  · rcases mem_qfoot.1 hk' with c | c
    · exact Or.inl (mem_qfoot.2 (Or.inl c))
    · rcases hat with q | q
      · rw [q] at c; exact Or.inl (mem_qfoot.2 (Or.inr c))
      · right; rw [q] at c; simp at c; omega

/-- While it grows. -/
structure Gw (w W : World) (qb : Nat) (gv0 gv : Value) (rb : Nat) (rv : Value) (L : List Tm) (K : Nat → Prop) (G : List Bool) : Prop where
  kq : Kq W qb gv rb G
  rs : Rs W rb rv L
  mv : Mv w W (qfoot qb gv0) (qfoot qb gv)
  dis : ∀ x ∈ qfoot qb gv, x ∉ rfoot rb rv
  pos : 1 ≤ G.length
  le : G.length ≤ L.length + 1
  sound : ∀ m, 1 ≤ m → On G m → Fol L K m
  known : ∀ m, K m → 1 ≤ m → On G m
theorem Gw.step {w W W' : World} {qb : Nat} {gv0 gv gv' : Value} {rb : Nat} {rv : Value} {L : List Tm} {K : Nat → Prop} {G : List Bool} (h : Gw w W qb gv0 gv rb rv L K G) (hl : G.length ≤ L.length) (k : Kq W' qb gv' rb (G ++ [false])) (m : Mv W W' (qfoot qb gv) (qfoot qb gv')) : Gw w W' qb gv0 gv' rb rv L K (G ++ [false]) := by
  have hon : ∀ x, On (G ++ [false]) x ↔ On G x := fun x => by have := @on_false G 1 x; simpa using this
  refine ⟨k, h.rs.keep m.fr (fun x hx c => h.dis x c hx), h.mv.trans m, fun x hx c => ?_, by simp, by simp; omega, fun x q1 q2 => h.sound x q1 ((hon x).1 q2), fun x q1 q2 => (hon x).2 (h.known x q1 q2)⟩
  rcases m.place x hx with q | q
  · exact h.dis x q c
  · have := h.rs.lt x c; omega

set_option maxRecDepth 100000 in
set_option maxHeartbeats 8000000 in
theorem grow_any (qb rb : Nat) (rv : Value) (L : List Tm) (K : Nat → Prop) (Z : List Nat) (w : World) (h : QS w qb rb L K Z) (hS : Rs w rb rv L) (hd : ∀ x ∈ Z, x ∉ rfoot rb rv) :
    Calls Try.prog 38 #[.pointer (some ⟨qb, 0, none⟩)] w fun e w' => e = .returned (.tuple #[]) ∧ ∃ gv G, Kq w' qb gv rb G ∧ Sq L K G ∧ (∀ m, 1 ≤ m → m ≤ L.length → Okm L G m) ∧ Mv w w' Z (qfoot qb gv) := by
  obtain ⟨gv, G, rfl, hk, hp, hle, hso, hkn, hok⟩ := h
  obtain ⟨i0, hi, hz0, hz1, hzb⟩ := info_parts Try.infoBool
  have hG := hS.good
  have hL := hS.len
  obtain ⟨d0, d1, _⟩ := hk.cells
  obtain ⟨r0, _⟩ := hS.cells
  obtain ⟨ra, rc, hrv⟩ := hS.form
  obtain ⟨ga, gc, hgv⟩ := own_slice hk.rg
  obtain ⟨M, hM⟩ : ∃ M, M = L.length := ⟨_, rfl⟩
  rw [hrv, ← hM] at r0
  rw [hgv] at d1
  have hMb : (M : Int) ≤ 1048576 := by omega
  have hNb : (G.length : Int) ≤ 1048577 := by omega
  by_cases hf : G.length = L.length + 1
  · have he : (G.length : Int) = (M : Int) + 1 := by omega
    have he2 : decide ((G.length : Int) = (M : Int) + 1) = true := by simp [he]
    have HE : Hid (∀ W, Below w.heap.size w W → ∃ gv' G', Kq W qb gv' rb G' ∧ Sq L K G' ∧ (∀ m, 1 ≤ m → m ≤ L.length → Okm L G' m) ∧ Mv w W (qfoot qb gv) (qfoot qb gv')) := fun W hb => ⟨gv, G, hk.bw hb, ⟨hf, hso, fun m q1 _ q3 => hkn m q3 q1⟩, hok hf, Mv.same _ hb⟩
    have hgb : (G.length : Int) = ((M + 1 : Nat) : Int) := by omega
    have e5 : G.length = M + 1 := by omega
    rw [e5] at d1 he2
    clear hk hp hle hso hkn hok hS hd hG hL hf hgv hrv hM he hgb e5 hNb he2
    go_enter Try.func38, Try.ntmps38
    go_wp2_with fail
    go_quiet (fail)
    go_wp2_with fail
    refine bodyPost_ret (v := .tuple #[]) (by simp [results, Try.results38, go_sem]) rfl ⟨rfl, unhide HE _ (below_drewN (Below.refl _ _) _)⟩
  · have hlt0 : G.length < M + 1 := by omega
    have hne : ¬ ((G.length : Int) = (M : Int) + 1) := by omega
    have hne2 : decide ((G.length : Int) = (M : Int) + 1) = false := by simp only [decide_eq_false_iff_not]; exact hne
    have hne3 : ((G.length : Int) == (M : Int) + 1) = false := by rw [beq_eq_false_iff_ne]; exact hne
    have G0 : Gw w w qb gv gv rb rv L K G := ⟨hk, hS, Mv.refl _ _, hd, hp, hle, hso, hkn⟩
    have HM := hide (And.intro hM (And.intro hG hL))
    have HI : Hid (∃ gv' G', Gw w w qb gv gv' rb rv L K G') := ⟨gv, G, G0⟩
    have HG0 := hide G0
    clear hk hp hle hso hkn hok hS hd hG hL hf hgv hrv hM hlt0 G0
    generalize G.length = N at *
    go_enter Try.func38, Try.ntmps38
    go_wp2_with fail
    go_quiet (fail)
    generalize hW0 : w.drewN _ = W0
    have HI2 : Hid (∃ gv' G', Gw w W0 qb gv gv' rb rv L K G') := by
      obtain ⟨gv', G', h⟩ := unhide HI
      have hb : Below w.heap.size w W0 := by rw [← hW0]; exact below_drewN (Below.refl _ _) _
      exact ⟨gv', G', ⟨h.kq.bw hb, h.rs.bw hb, h.mv.after hb, h.dis, h.pos, h.le, h.sound, h.known⟩⟩
    clear hW0 HI hne hne2 hne3 d0 d1 r0 hNb HG0
    go_wp2_with fail
    go_loopw [] (fun wr => Hid (∃ gv' G', Gw w wr qb gv gv' rb rv L K G')) (fun wr => M + 1 - lenOf ((wr.cell? ⟨qb, 1, none⟩).getD (.slice none 0 0)))
    case atStart => exact HI2
    case round =>
      clear HI2
      obtain ⟨gv1, G1, g1⟩ := unhide hrel
      obtain ⟨hM, hG, hL⟩ := unhide HM
      obtain ⟨d0, d1, df⟩ := g1.kq.cells
      obtain ⟨r0, _⟩ := g1.rs.cells
      obtain ⟨ra1, rc1, hrv1⟩ := g1.rs.form
      obtain ⟨ga1, gc1, hgv1⟩ := own_slice g1.kq.rg
      obtain ⟨N1, hN1⟩ : ∃ N1, N1 = G1.length := ⟨_, rfl⟩
      rw [hrv1, ← hM] at r0
      have hrow := g1.kq.rg
      unfold BRow at hrow
      rw [← hN1] at hgv1 hrow
      have hle := g1.le
      have HQ := hide (And.intro g1 (And.intro hN1 (And.intro hgv1 hrow)))
      have d1' := d1
      rw [hgv1] at d1
      have hNb1 : (N1 : Int) ≤ 1048577 := by omega
      have hqw := lt_of_cell d1
      have hms : Hid (M + 1 - lenOf ((wr.cell? ⟨qb, 1, none⟩).getD (.slice none 0 0)) = M + 1 - N1) := by unfold Hid; rw [d1]; rfl
      by_cases hlt : N1 ≤ M
      · have hc : (N1 : Int) < (M : Int) + 1 := by omega
        have hc2 : decide ((N1 : Int) < (M : Int) + 1) = true := by simp only [decide_eq_true_eq]; exact hc
        clear g1 hM hG hL hrv1 hN1 hgv1 hle hrel d1' hrow
        go_upto_region 1 with fail
        go_quiet (fail)
        generalize hW1 : wr.drewN _ = W1
        have hb1 : Below wr.heap.size wr W1 := by rw [← hW1]; exact below_drewN (Below.refl _ _) _
        have HQ1 : Hid (Kq W1 qb gv1 rb G1 ∧ N1 = G1.length ∧ gv1 = .slice ga1 N1 gc1) := ⟨(unhide HQ).1.kq.bw hb1, (unhide HQ).2.1, (unhide HQ).2.2.1⟩
        have e1 := (unhide HQ1).1.cells.2.1
        have ef := (unhide HQ1).1.cells.2.2 1
        have hrow1 : W1.ownsRow 0 4 1 gv1 N1 (G1.map .bool) := by
          have := (unhide HQ1).1.rg; unfold BRow at this; rw [← (unhide HQ1).2.1] at this; exact this
        have HB1 := hide hb1
        have hmx : N1 + 1 ≤ maxLen := by unfold maxLen; omega
        have hby : (N1 + 1) * 1 ≤ 140737488355328 := by omega
        have HX := hide (And.intro hmx hby)
        clear hW1 d0 d1 df r0 hb1 hqw hmx hby
        go_wp2_with (at_builtin; refine wpList_append_own_at _ rfl (.tmp 36) (.tmp 37) 58 rfl 0 4 i0 (.bool false) 1 1 Try.underlying58 hi hz0 hz1 hzb rfl (by decide) _ N1 _ rfl (World.ownsRow.alloc hrow1 _) ⟨W1.heap.size, 0, none⟩ 1 1 [.bool false] rfl rfl (cell_one_new _ _ _) (one_bool false) (unhide HX).1 (unhide HX).2 (Nat.zero_le _) ?nx)
        case nx =>
          intro v' w3 hown' hgrow _ hat
          obtain ⟨k3, m3, k4, k5, g', cp, hv'⟩ := (unhide HQ1).1.grown (x := false) ((Fr.refl [] W1).alloc _) (by rw [← (unhide HQ1).2.1]; exact hown') hgrow (by simpa using hat)
          rw [← (unhide HQ1).2.1] at hv'
          subst hv'
          have HE : Hid ((∃ gv' G', Gw w (w3.setCell ⟨qb, 1, none⟩ (.slice (some ⟨g', 0, none⟩) (N1 + 1) cp)) qb gv gv' rb rv L K G') ∧ M + 1 - lenOf (((w3.setCell ⟨qb, 1, none⟩ (.slice (some ⟨g', 0, none⟩) (N1 + 1) cp)).cell? ⟨qb, 1, none⟩).getD (.slice none 0 0)) < M + 1 - N1) := by
            refine ⟨⟨_, _, (unhide HQ).1.step (by have := (unhide HQ).2.1; have := (unhide HM).1; omega) k3 (m3.before (unhide HB1))⟩, ?_⟩
            rw [k3.cells.2.1]
            show M + 1 - (N1 + 1) < M + 1 - N1
            omega
          clear hown' hgrow hat k3 m3 hrow1 e1 ef
          go_wp2_with fail
          go_roundw
          case rel => exact (unhide HE).1
          case measure => rw [unhide hms]; exact (unhide HE).2
      · have hc : ¬ ((N1 : Int) < (M : Int) + 1) := by omega
        have hc2 : decide ((N1 : Int) < (M : Int) + 1) = false := by simp only [decide_eq_false_iff_not]; exact hc
        have KGo : Hid (∀ W, Below wr.heap.size wr W → Calls Try.prog 30 #[.pointer (some ⟨qb, 0, none⟩)] W fun e w' => e = .returned (.tuple #[]) ∧ ∃ G', Gq W w' qb gv1 rb rv L G' ∧ Sq L K G' ∧ ∀ m, 1 ≤ m → m ≤ L.length → Okm L G' m) := fun W hb => by
          have hle := g1.le
          exact goes_any qb gv1 rb rv G1 L K W (g1.kq.bw hb) (g1.rs.bw hb) g1.dis ⟨by omega, g1.sound, fun m q1 _ q3 => g1.known m q3 q1⟩
        have HEnd : Hid (∀ W W', Below wr.heap.size wr W → ∀ G', Gq W W' qb gv1 rb rv L G' → Mv w W' (qfoot qb gv) (qfoot qb gv1)) := fun W W' hb G' q => (g1.mv.after hb).trans ⟨q.fr, fun _ hx => Or.inl hx⟩
        clear g1 hM hG hL hrv1 hN1 hgv1 hle hrel d1' hrow HQ hms
        go_upto_region 1 with fail
        go_quiet (fail)
        generalize hW1 : wr.drewN _ = W1
        have hb1 : Below wr.heap.size wr W1 := by rw [← hW1]; exact below_drewN (Below.refl _ _) _
        have K2 := unhide KGo W1 hb1
        have HB1 := hide hb1
        clear hW1 d0 d1 df r0 hb1 hqw KGo
        go_wp2_with fail
        refine K2.mono ?_
        rintro e w5 ⟨rfl, G5, q5, s5, o5⟩
        have HF : Hid (∃ gv' G', Kq w5 qb gv' rb G' ∧ Sq L K G' ∧ (∀ m, 1 ≤ m → m ≤ L.length → Okm L G' m) ∧ Mv w w5 (qfoot qb gv) (qfoot qb gv')) := ⟨gv1, G5, q5.kq, s5, o5, unhide HEnd _ _ (unhide HB1) _ q5⟩
        clear K2 q5 s5 o5
        go_wp2_with fail
        go_end0
        exact ⟨rfl, unhide HF⟩

set_option maxRecDepth 100000 in
set_option maxHeartbeats 4000000 in
theorem qHas_any (qb rb : Nat) (rv : Value) (L : List Tm) (K : Nat → Prop) (Z : List Nat) (x : Int) (w : World) (h : QS w qb rb L K Z) (hS : Rs w rb rv L) (hd : ∀ y ∈ Z, y ∉ rfoot rb rv) :
    Calls Try.prog 20 #[.pointer (some ⟨qb, 0, none⟩), .int .i64 x] w fun e w' => e = .returned (.bool (hasB L K x)) ∧ ∃ Z', QS w' qb rb L K Z' ∧ Mv w w' Z Z' := by
  have KG := grow_any qb rb rv L K Z w h hS hd
  have hkr : ∀ m, K m → 1 ≤ m → m ≤ L.length := by
    obtain ⟨gv, G, _, _, _, h2, _, h4, _⟩ := h
    intro m q1 q2
    have := (h4 m q1 q2).lt
    omega
  have hG := hS.good
  have hL := hS.len
  obtain ⟨r, hr⟩ : ∃ r, r = hasB L K x := ⟨_, rfl⟩
  rw [← hr]
  have HI := hide (And.intro hG (And.intro hL (And.intro hr hkr)))
  clear h hS hd hG hL hr hkr
  go_enter Try.func20, Try.ntmps20
  go_wp2_with fail
  refine KG.mono ?_
  rintro e w1 ⟨rfl, gv, G, k1, s1, o1, m1⟩
  clear KG
  obtain ⟨hG, hL, hr, hkr⟩ := unhide HI
  have hlen := s1.len
  have d1 := k1.cells.2.1
  obtain ⟨g, cap, hgv, _, hmk, _⟩ := k1.marks (by omega)
  obtain ⟨N, hN⟩ : ∃ N, N = G.length := ⟨_, rfl⟩
  rw [hgv, ← hN] at d1
  have HE : Hid (∃ Z', QS w1 qb rb L K Z' ∧ Mv w w1 Z Z') := ⟨_, ⟨gv, G, rfl, k1, by omega, by omega, s1.sound, fun m q1 q2 => s1.known m q2 (hkr m q1 q2) q1, fun _ => o1⟩, m1⟩
  have hNb : (N : Int) ≤ 1048577 := by omega
  have hout : ¬ (1 ≤ x ∧ x < (N : Int)) → r = false := fun c => by
    rw [hr]
    exact hasB_out hG (thr_false.2 (fun q => c ⟨q.1, by omega⟩))
  by_cases c1 : 1 ≤ x
  · by_cases c2 : x < (N : Int)
    · obtain ⟨m, rfl⟩ : ∃ m : Nat, x = (m : Int) := ⟨x.toNat, by omega⟩
      have mm := hmk m (by omega)
      have er : onB G m = r := by
        rw [hr, Bool.eq_iff_iff, onB_iff, hasB_nat hG]
        exact s1.tells hG o1 (by omega)
      rw [er] at mm
      have b1 : decide ((1 : Int) ≤ (m : Int)) = true := by simp only [decide_eq_true_eq]; exact c1
      have b2 : decide ((m : Int) < (N : Int)) = true := by simp only [decide_eq_true_eq]; exact c2
      clear hG hL hr hkr hlen hgv hmk hN hout er k1 s1 o1 m1
      go_wp2_with fail
      go_ret
      exact ⟨rfl, unhide HE⟩
    · have b1 : decide ((1 : Int) ≤ x) = true := by simp only [decide_eq_true_eq]; exact c1
      have b2 : decide (x < (N : Int)) = false := by simp only [decide_eq_false_iff_not]; exact c2
      have er := hout (fun q => c2 q.2)
      subst er
      clear hG hL hr hkr hlen hgv hmk hN hout k1 s1 o1 m1
      go_wp2_with fail
      go_ret
      exact ⟨rfl, unhide HE⟩
  · have b1 : decide ((1 : Int) ≤ x) = false := by simp only [decide_eq_false_iff_not]; exact c1
    have er := hout (fun q => c1 q.1)
    subst er
    clear hG hL hr hkr hlen hgv hmk hN hout k1 s1 o1 m1
    go_wp2_with fail
    go_ret
    exact ⟨rfl, unhide HE⟩

/-- What the document's New leaves. -/
def QNew (w w' : World) (rb : Nat) (L : List Tm) (l : List Int) (p : Option Addr) : Prop :=
  (newE L l = 1 ∧ p = none) ∨ (newE L l = 0 ∧ ∃ qb Z, p = some ⟨qb, 0, none⟩ ∧ QS w' qb rb L (fun m => (m : Int) ∈ l) Z ∧ ∀ x ∈ Z, w.heap.size ≤ x)
theorem made_false (n : Nat) : (madeCells (Value.bool false).cells (n * 1)).toList = (List.replicate n false).map .bool := by
  have hs : (Value.bool false).cells = #[Value.bool false] := rfl
  rw [hs]
  apply List.ext_getElem?
  intro i
  simp only [madeCells]
  by_cases h : i < n
  · simp [h, Nat.mod_one]
  · simp [h]
/-- While the known ones are marked. -/
structure Qm (w W : World) (qb g N cap rb : Nat) (rv : Value) (L : List Tm) (l : List Int) (i : Nat) (G : List Bool) : Prop where
  kq : Kq W qb (.slice (some ⟨g, 0, none⟩) N cap) rb G
  rs : Rs W rb rv L
  bel : Below w.heap.size w W
  len : G.length = L.length + 1
  on : ∀ m, On G m ↔ 1 ≤ m ∧ m ≤ L.length ∧ (m : Int) ∈ l.take i
  rng : ∀ x ∈ l.take i, thr L.length x = true

set_option maxRecDepth 100000 in
set_option maxHeartbeats 8000000 in
theorem qNew_any (rb : Nat) (rv : Value) (L : List Tm) (a : Option Addr) (cap : Nat) (l : List Int) (w : World) (hS : Rs w rb rv L) (h : NIs w (.slice a l.length cap) l) (hl : l.length ≤ 65536) :
    Calls Try.prog 11 #[.pointer (some ⟨rb, 0, none⟩), .slice a l.length cap] w fun e w' => ∃ p, e = .returned (.tuple #[.pointer p, .int .i64 (newE L l)]) ∧ Below w.heap.size w w' ∧ QNew w w' rb L l p := by
  obtain ⟨i0, hi, hz0, hz1, hzb⟩ := info_parts Try.infoBool
  obtain ⟨r0, _⟩ := hS.cells
  obtain ⟨ra, rc, hrv⟩ := hS.form
  have hL := hS.len
  obtain ⟨M, hM⟩ : ∃ M, M = L.length := ⟨_, rfl⟩
  rw [hrv, ← hM] at r0
  have hMb : (M : Int) ≤ 1048576 := by omega
  obtain ⟨N, hN⟩ : ∃ N, N = l.length := ⟨_, rfl⟩
  rw [← hN]
  have hNb : (N : Int) ≤ 65536 := by omega
  obtain ⟨er, her⟩ : ∃ er, er = newE L l := ⟨_, rfl⟩
  rw [← her]
  have hb5 : i0.bytes * (M + 1) ≤ 281474976710656 := by rw [hzb]; omega
  have hb6 : M + 1 ≤ maxLen := by unfold maxLen; omega
  have HB := hide (And.intro hb5 hb6)
  have HI := hide (And.intro hS (And.intro h (And.intro hl (And.intro hN (And.intro her hM)))))
  have hrl := lt_of_cell r0
  clear hS h hl hN her hM hrv hL hb5 hb6
  go_enter Try.func11, Try.ntmps11
  go_wp2_with (first | (at_make; refine wpList_make_full _ rfl _ _ 58 rfl w.heap.size 4 i0 (.bool false) 1 Try.underlying58 hi hz0 hz1 _ _ _ _ (M + 1) rfl rfl (by first | rfl | omega) (by first | rfl | omega) (unhide HB).1 (unhide HB).2 (Nat.le_refl _) ?_; intro w1 hrow1 hgr1))
  have hb1 : Below w.heap.size w w1 := ⟨hgr1.os, hgr1.tape, hgr1.output, hgr1.size, fun k hk => hgr1.block k hk (by simp)⟩
  have hq0 : Qm w (w1.alloc (.cells #[.pointer (some ⟨rb, 0, none⟩), .slice (some ⟨w.heap.size, 0, none⟩) (M + 1) (M + 1)] 68)) w1.heap.size w.heap.size (M + 1) (M + 1) rb rv L l 0 (List.replicate (M + 1) false) := by
    obtain ⟨hS, h, hl, hN, her, hM⟩ := unhide HI
    have hb2 := hb1.alloc hb1.size (.cells #[.pointer (some ⟨rb, 0, none⟩), .slice (some ⟨w.heap.size, 0, none⟩) (M + 1) (M + 1)] 68)
    rw [made_false] at hrow1
    refine ⟨⟨heap_alloc_new _ _, ?_⟩, hS.bw hb2, hb2, by simp [hM], fun m => ?_, by simp⟩
    · have hr : BRow w1 (.slice (some ⟨w.heap.size, 0, none⟩) (M + 1) (M + 1)) (List.replicate (M + 1) false) := by
        refine ⟨by simp, ?_⟩
        rcases hrow1.2 with ⟨c, _⟩ | ⟨g, cp, cur, hv, _, rest⟩
        · cases c
        · exact Or.inr ⟨g, cp, cur, by simpa using hv, Nat.zero_le _, by simpa using rest⟩
      exact own_keep hr fun k hk => Below.heap_alloc _ _ _ (World.ownsRow.lt hr k hk).2
    · constructor
      · intro c
        unfold On at c
        rw [List.getElem?_replicate] at c
        split at c <;> simp at c
      · rintro ⟨_, _, c⟩; simp at c
  have HQ0 := hide hq0
  have hw1s : w.heap.size ≤ w1.heap.size := hb1.size
  clear hq0 hrow1 hgr1 hb1 r0
  go_wp2_with fail
  go_loopw [7] (fun iv wr => ∃ i : Nat, iv = .int .i64 (i : Int) ∧ i ≤ N ∧ Hid (∃ G, Qm w wr w1.heap.size w.heap.size (M + 1) (M + 1) rb rv L l i G)) (fun iv _ => (N - intOf iv).toNat)
  case atStart => exact ⟨0, rfl, by omega, _, unhide HQ0⟩
  case round =>
    clear HQ0
    obtain ⟨i, rfl, hiN, HR⟩ := hrel
    obtain ⟨G, q⟩ := unhide HR
    obtain ⟨hS, h, hl, hN, her, hM⟩ := unhide HI
    by_cases hlt : i < N
    · obtain ⟨z, hz⟩ : ∃ z, l[i]? = some z := ⟨_, List.getElem?_eq_getElem (by omega)⟩
      obtain ⟨g, o, hg, hc⟩ : ∃ g o, a = some ⟨g, o, none⟩ ∧ ∀ W, Below w.heap.size w W → W.cell? ⟨g, o + i, none⟩ = some (.int .i64 z) := by
        obtain ⟨a', cap', hv, _, _, hc⟩ := h
        cases hv
        rcases hc with c | ⟨g, o, rfl, hc⟩
        · rw [c] at hz; simp at hz
        · refine ⟨g, o, rfl, fun W hW => ?_⟩
          have := hc i z hz
          rw [World.cell?_of_block (w := w) (hW.block _ (lt_of_cell this))]; exact this
      subst hg
      have cz := hc wr q.bel
      obtain ⟨r0, _⟩ := q.rs.cells
      obtain ⟨ra1, rc1, hrv1⟩ := q.rs.form
      rw [hrv1, ← hM] at r0
      have d1 := q.kq.cells.2.1
      have hi1 : (i : Int) < (N : Int) := by omega
      have hds : Hid (∀ W, Below wr.heap.size wr W → Qm w W w1.heap.size w.heap.size (M + 1) (M + 1) rb rv L l i G ∧ W.cell? ⟨g, o + i, none⟩ = some (.int .i64 z)) := fun W hb => ⟨⟨q.kq.bw hb, q.rs.bw hb, bw_tr q.bel hb, q.len, q.on, q.rng⟩, hc W (bw_tr q.bel hb)⟩
      have HZ := hide (And.intro hz (And.intro hM her))
      have hbel := hide q.bel
      clear q hS h hl hN her hM hz hc hrv1 HR
      by_cases hth : thr L.length z = true
      · obtain ⟨t1, t2⟩ := thr_iff.1 hth
        rw [← (unhide HZ).2.1] at t2
        have b1 : decide (z < (1 : Int)) = false := by simp only [decide_eq_false_iff_not]; omega
        have b2 : decide ((M : Int) < z) = false := by simp only [decide_eq_false_iff_not]; omega
        obtain ⟨zn, hzn⟩ : ∃ zn : Nat, z = (zn : Int) := ⟨z.toNat, by omega⟩
        subst hzn
        have b3 : decide (M < zn) = false := by simp only [decide_eq_false_iff_not]; omega
        have HTH := hide hth
        clear hth
        go_upto_region 7 with fail
        go_quiet (fail)
        generalize hW1 : wr.drewN _ = W1
        have hbW : Below wr.heap.size wr W1 := by rw [← hW1]; exact below_drewN (Below.refl _ _) _
        obtain ⟨q1, cz1⟩ := unhide hds W1 hbW
        have e1 := q1.kq.cells.2.1
        have ef := own_frozen q1.kq.rg (g := w.heap.size) rfl zn
        have em := q1.kq.rg.cell (g := w.heap.size) rfl (m := zn) (by have := q1.len; have := (unhide HZ).2.1; omega)
        have HE : Hid (∃ G', Qm w (W1.setCell ⟨w.heap.size, zn, none⟩ (.bool true)).drew w1.heap.size w.heap.size (M + 1) (M + 1) rb rv L l (i + 1) G') := by
          obtain ⟨hz, hM, her⟩ := unhide HZ
          obtain ⟨k1, k2⟩ := q1.kq.set zn
          have hbS : Below w.heap.size w (W1.setCell ⟨w.heap.size, zn, none⟩ (.bool true)).drew := (q1.bel.setCell (Nat.le_refl _) _).drew
          have hbd : Below (W1.setCell ⟨w.heap.size, zn, none⟩ (.bool true)).heap.size (W1.setCell ⟨w.heap.size, zn, none⟩ (.bool true)) (W1.setCell ⟨w.heap.size, zn, none⟩ (.bool true)).drew := (Below.refl _ _).drew
          have hmem : ∀ y, y ∈ l.take (i + 1) ↔ y ∈ l.take i ∨ y = (zn : Int) := fun y => by
            rw [List.take_add_one, hz]; simp
          refine ⟨_, k1.bw hbd, (unhide HI).1.bw hbS, hbS, by simpa using q1.len, fun m => ?_, fun x hx => ?_⟩
          · have hzl : zn < G.length := by have := q1.len; omega
            rw [on_set hzl, q1.on m, hmem]
            constructor
            · rintro (c | ⟨c1, c2, c3⟩)
              · subst c; exact ⟨by omega, by omega, Or.inr rfl⟩
              · exact ⟨c1, c2, Or.inl c3⟩
            · rintro ⟨c1, c2, c3 | c3⟩
              · exact Or.inr ⟨c1, c2, c3⟩
              · exact Or.inl (by omega)
          · rcases (hmem x).1 hx with c | c
            · exact q1.rng x c
            · rw [c]; exact unhide HTH
        have hgw := lt_of_cell em
        have hqw := lt_of_cell e1
        have hcw := lt_of_cell cz1
        have zl : (zn : Int) < ((M + 1 : Nat) : Int) := by omega
        clear hW1 q1 hbW d1 r0 cz hds
        go_wp2_with fail
        go_region
        all_goals
          go_wp2_with fail
          go_roundw
          case rel => exact ⟨i + 1, by go_num, by omega, HE⟩
          case measure => simp only [intOf]; omega
      · have hth0 : thr L.length z = false := by cases c : thr L.length z; rfl; exact absurd c hth
        have HE : Hid (er = 1 ∧ newE L l = 1) := by
          obtain ⟨hz, hM, her⟩ := unhide HZ
          have := newE_bad (List.mem_of_getElem? hz) hth0
          exact ⟨by rw [her, this], this⟩
        have hno := thr_false.1 hth0
        rw [← (unhide HZ).2.1] at hno
        clear hth hth0 HZ hds
        by_cases c1 : z < 1
        · have b1 : decide (z < (1 : Int)) = true := by simp only [decide_eq_true_eq]; exact c1
          clear hno
          go_upto_region 7 with fail
          go_quiet (fail)
          generalize hW1 : wr.drewN _ = W1
          have hbW : Below w.heap.size w W1 := by rw [← hW1]; exact below_drewN (unhide hbel) _
          clear hW1 d1 r0 cz
          go_wp2_with fail
          refine bodyPost_ret (v := .tuple #[.pointer none, .int .i64 1]) (by simp [results, Try.results11, go_sem]) rfl ⟨none, by rw [(unhide HE).1], hbW, Or.inl ⟨(unhide HE).2, rfl⟩⟩
        · have b1 : decide (z < (1 : Int)) = false := by simp only [decide_eq_false_iff_not]; exact c1
          have c2 : (M : Int) < z := by omega
          have b2 : decide ((M : Int) < z) = true := by simp only [decide_eq_true_eq]; exact c2
          clear hno
          go_upto_region 7 with fail
          go_quiet (fail)
          generalize hW1 : wr.drewN _ = W1
          have hbW : Below w.heap.size w W1 := by rw [← hW1]; exact below_drewN (unhide hbel) _
          clear hW1 d1 r0 cz
          go_wp2_with fail
          refine bodyPost_ret (v := .tuple #[.pointer none, .int .i64 1]) (by simp [results, Try.results11, go_sem]) rfl ⟨none, by rw [(unhide HE).1], hbW, Or.inl ⟨(unhide HE).2, rfl⟩⟩
    · obtain rfl : i = N := by omega
      have hall := q.rng
      rw [List.take_of_length_le (by omega)] at hall
      have hon := q.on
      rw [List.take_of_length_le (by omega)] at hon
      have hdis : ∀ x ∈ qfoot w1.heap.size (.slice (some ⟨w.heap.size, 0, none⟩) (M + 1) (M + 1)), w.heap.size ≤ x := by
        intro x hx
        rcases mem_qfoot.1 hx with e | e
        · omega
        · simp [Value.ownBlock] at e; omega
      have KG := goes_any w1.heap.size _ rb rv G L (fun m => (m : Int) ∈ l) wr q.kq q.rs (fun x hx c => by have := hS.lt x c; have := hdis x hx; omega) ⟨q.len, fun m q1 q2 => .known q1 ((hon m).1 q2).2.1 ((hon m).1 q2).2.2, fun m q1 q2 q3 => (hon m).2 ⟨q1, q2, q3⟩⟩
      have HF : Hid (∀ W' G', Gq wr W' w1.heap.size (.slice (some ⟨w.heap.size, 0, none⟩) (M + 1) (M + 1)) rb rv L G' → Sq L (fun m => (m : Int) ∈ l) G' → (∀ m, 1 ≤ m → m ≤ L.length → Okm L G' m) → er = 0 ∧ Below w.heap.size w W' ∧ QNew w W' rb L l (some ⟨w1.heap.size, 0, none⟩)) := by
        intro W' G' g1 g2 g3
        have e0 := newE_ok hall
        refine ⟨by rw [her, e0], Fr.toBase q.bel g1.fr hdis, Or.inr ⟨e0, _, _, rfl, ⟨_, G', rfl, g1.kq, by have := g2.len; omega, by have := g2.len; omega, g2.sound, fun m k1 k2 => g2.known m k2 (by have := thr_iff.1 (hall _ k1); omega) k1, fun _ => g3⟩, hdis⟩⟩
      clear q hall hon hdis hS h hl hN her hM HR
      go_wp2_with fail
      refine KG.mono ?_
      rintro e w5 ⟨rfl, G5, q5, s5, o5⟩
      have HX := unhide HF _ _ q5 s5 o5
      clear KG q5 s5 o5
      go_wp2_with fail
      refine bodyPost_ret (v := .tuple #[.pointer (some ⟨w1.heap.size, 0, none⟩), .int .i64 0]) (by simp [results, Try.results11, go_sem]) rfl ⟨_, by rw [HX.1], HX.2.1, HX.2.2⟩

end Go.Proofs.Ytfpimmbjjcpobaa
