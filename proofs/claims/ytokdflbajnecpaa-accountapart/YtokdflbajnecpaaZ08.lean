/- Texts joined: AcG AcH AcR AcT. -/
import Derived.Test.YtokdflbajnecpaaZ07
import Derived.Test.YtokdflbajnecpaaZ03
import Derived.Test.YtokdflbajnecpaaZ06
/- Package account: Seed. -/
namespace Go.Proofs.Ytokdflbajnecpaa.Tn.Ax
open Go.RowKit Go.Maps
def seedQ (L : List Tm) (g e d dg : Int) : List Tm × List Nat := ((dats (L, []) [g, e, d]).1, (dats (L, []) [g, e, d]).2 ++ [dg.toNat])
def seedR (L : List Tm) (g e d dg : Int) : List Tm × Int × Int := ls (seedQ L g e d dg).1 (cI (seedQ L g e d dg).2)
def seedO (L : List Tm) (s dg : Int) : Bool := thr L.length s && thr L.length dg
def seedE (L : List Tm) (s dg : Int) : Int := if seedO L s dg = true then 0 else 1
def seedP (L : List Tm) (s g e d dg : Int) : List Tm × Nat := if seedO L s dg = true then (mkL (seedR L g e d dg).1 ⟨4, 12, s, (seedR L g e d dg).2.1⟩, mkN (seedR L g e d dg).1 ⟨4, 12, s, (seedR L g e d dg).2.1⟩) else (L, 0)
theorem seedQ_len (L : List Tm) (g e d dg : Int) : (seedQ L g e d dg).1.length ≤ L.length + 3 ∧ L.length ≤ (seedQ L g e d dg).1.length ∧ (seedQ L g e d dg).2.length = 4 := by
  have h1 := dats_len [g, e, d] (L, [])
  simp only [List.length_cons, List.length_nil] at h1
  exact ⟨by show (dats (L, []) [g, e, d]).1.length ≤ _; omega, by show _ ≤ (dats (L, []) [g, e, d]).1.length; omega, by simp [seedQ]; omega⟩
theorem seedQ_rg {L : List Tm} (g e d : Int) {dg : Int} (h : thr L.length dg = true) (hl : L.length + 3 ≤ 1048576) : Rg (seedQ L g e d dg).1.length (seedQ L g e d dg).2 := by
  have h1 := dats_len [g, e, d] (L, [])
  refine (Rg.dats [g, e, d] (p := (L, [])) (Rg.nil _) (by simpa using hl)).snoc ?_
  have := thr_iff.1 h
  simp only at h1
  omega
theorem seedR_ok {L : List Tm} (g e d : Int) {dg : Int} (h : thr L.length dg = true) (hl : L.length + 100 ≤ 1048576) : (seedR L g e d dg).2.2 = 0 ∧ thr (seedR L g e d dg).1.length (seedR L g e d dg).2.1 = true ∧ (seedR L g e d dg).1.length ≤ L.length + 7 ∧ L.length ≤ (seedR L g e d dg).1.length := by
  have l4 := seedQ_len L g e d dg
  have r4 := seedQ_rg g e d h (by omega)
  have hne : (seedQ L g e d dg).2 ≠ [] := fun c => by rw [c] at l4; simp at l4
  obtain ⟨q1, q2, q3, q4⟩ := ls_ok r4 hne (by omega)
  exact ⟨q1, q2, by unfold seedR; omega, by unfold seedR; omega⟩
theorem make_kdf {b : Nat} {sv : Value} {mb : Nat} {L : List Tm} {w W : World} {sv0 : Value} (S : SStep w W b sv0 sv mb L) (l s c : Int) (hl : 0 ≤ l ∧ l ≤ 100) (hs : thr L.length s = true) (hc : c = 0 ∨ thr L.length c = true) (hL : L.length < 1048576) :
    Calls Try.prog 27 #[.pointer (some ⟨b, 0, none⟩), .agg #[.int .u8 4, .int .i64 l, .int .i64 s, .int .i64 c]] W fun e w' => e = .returned (.tuple #[.int .i64 (mkN L ⟨4, l, s, c⟩ : Nat), .int .i64 0]) ∧ ∃ sv', SStep w w' b sv0 sv' mb (mkL L ⟨4, l, s, c⟩) := by
  have h1 := thr_rng hs (by omega)
  have h2 : 0 ≤ c ∧ c ≤ 1048577 := by rcases hc with rfl | hc; omega; exact thr_rng hc (by omega)
  refine (make_ok S.st 4 l s c (ok_kdf (by omega)) (may_kdf hl.1 hs hc) hL).mono ?_
  rintro e w' ⟨h1, sv2, s2⟩
  exact ⟨h1, sv2, S.trans s2⟩
set_option maxRecDepth 100000 in
set_option maxHeartbeats 4000000 in
theorem seed1_ok {b : Nat} {sv : Value} {mb : Nat} {L : List Tm} {w : World} (h : St w b sv mb L) (s g e d dg : Int) (hg : i64r g) (he : i64r e) (hd : i64r d) (hO : seedO L s dg = true) (hl : L.length + 100 ≤ 1048576) (p1 p2 p3 p4 p5 : Nat) (c1 : w.heap[p1]? = some (.cells #[.int .i64 g] 3 (0, 0))) (c2 : w.heap[p2]? = some (.cells #[.int .i64 e] 3 (0, 0))) (c3 : w.heap[p3]? = some (.cells #[.int .i64 d] 3 (0, 0))) (c4 : w.heap[p4]? = some (.cells #[.int .i64 dg] 3 (0, 0))) (c5 : w.heap[p5]? = some (.cells #[.int .i64 s] 3 (0, 0))) :
    Calls Try.prog 40 #[.pointer (some ⟨b, 0, none⟩), .pointer (some ⟨p1, 0, none⟩), .pointer (some ⟨p2, 0, none⟩), .pointer (some ⟨p3, 0, none⟩), .pointer (some ⟨p4, 0, none⟩), .pointer (some ⟨p5, 0, none⟩)] w fun ee w' => ee = .returned (.tuple #[.int .i64 ((seedP L s g e d dg).2 : Nat), .int .i64 0]) ∧ ∃ sv', SStep w w' b sv sv' mb (seedP L s g e d dg).1 := by
  have hOs : thr L.length s = true ∧ thr L.length dg = true := by simpa [seedO] using hO
  obtain ⟨q1, q2, q3, q4⟩ := seedR_ok g e d hOs.2 hl
  have l4 := seedQ_len L g e d dg
  have r4 := seedQ_rg g e d hOs.2 (by omega)
  have l1 := dats_len [g, e, d] (L, [])
  obtain ⟨n, rfl⟩ : ∃ n : Nat, dg = n := ⟨dg.toNat, by have := thr_iff.1 hOs.2; omega⟩
  obtain ⟨w0, hw0⟩ : ∃ w0, w0 = w.alloc (.cells #[.pointer (some ⟨b, 0, none⟩), .slice none 0 0, .int .i64 0] 77) := ⟨_, rfl⟩
  have HA0 : Hid (AS w0 w0 b sv sv mb L w.heap.size (.slice none 0 0) (.slice none 0 0) []) := by
    rw [hw0]
    exact AS.refl (h.bw (bwA' _ _)) (heap_alloc_new _ _) (NRow.nil _ _)
  obtain ⟨p, hp0⟩ : ∃ p, p = w.heap.size := ⟨_, rfl⟩
  obtain ⟨P, hP⟩ : ∃ P, P = dats (L, []) [g, e, d] := ⟨_, rfl⟩
  obtain ⟨Q, hQ⟩ : ∃ Q, Q = seedQ L g e d (n : Int) := ⟨_, rfl⟩
  obtain ⟨R, hR⟩ : ∃ R, R = seedR L g e d (n : Int) := ⟨_, rfl⟩
  have eQ : Q = (P.1, P.2 ++ [n]) := by rw [hQ, hP]; simp [seedQ]
  have eR : R = ls Q.1 (cI Q.2) := by rw [hR, hQ]; rfl
  rw [← hP] at l1
  rw [← hQ] at l4 r4
  rw [← hR] at q1 q2 q3 q4
  simp only [List.length_cons, List.length_nil] at l1
  have eP : seedP L s g e d (n : Int) = (mkL R.1 ⟨4, 12, s, R.2.1⟩, mkN R.1 ⟨4, 12, s, R.2.1⟩) := by unfold seedP; rw [if_pos hO, ← hR]
  rw [eP]
  have K1 : Hid (Calls Try.prog 41 #[.pointer (some ⟨p, 0, none⟩), .slice (some ⟨w0.heap.size, 0, none⟩) 3 3] (w0.alloc (.cells #[.int .i64 g, .int .i64 e, .int .i64 d] 3)) fun ee w' => ee = .returned (.tuple #[]) ∧ ∃ sv' lv', AS w0 w' b sv sv' mb P.1 p (.slice none 0 0) lv' P.2) := by
    have := (unhide HA0).data_new [g, e, d] (fun z hz => by
      simp at hz
      rcases hz with rfl | rfl | rfl
      · exact hg
      · exact he
      · exact hd) (by simp; omega) (by simp) (by simp)
    rw [← hP, ← hp0] at this
    refine Calls.mono this ?_
    rintro ee w' ⟨h1, -, h2⟩
    exact ⟨h1, h2⟩
  have K2 : Hid (∀ W sv' lv', AS w0 W b sv sv' mb P.1 p (.slice none 0 0) lv' P.2 → Calls Try.prog 42 #[.pointer (some ⟨p, 0, none⟩), .slice (some ⟨W.heap.size, 0, none⟩) 1 1] (W.alloc (.cells #[.int .i64 (n : Int)] 3)) fun ee w' => ee = .returned (.tuple #[]) ∧ ∃ sv' lv', AS w0 w' b sv sv' mb Q.1 p (.slice none 0 0) lv' Q.2) := fun W sv' lv' A => by
    refine (A.terms_new n (by omega)).mono ?_
    rintro ee w' ⟨h1, -, lv2, h2⟩
    exact ⟨h1, sv', lv2, by rw [eQ]; exact h2⟩
  have HE : Hid (∀ W sv' lv' X Y, AS w0 W b sv sv' mb X p (.slice none 0 0) lv' Y → SStep w W b sv sv' mb X) := fun W sv' lv' X Y A => by
    rw [hp0, hw0] at A
    exact A.sstep
  have K3 : Hid (∀ W sv' lv', AS w0 W b sv sv' mb Q.1 p (.slice none 0 0) lv' Q.2 → Calls Try.prog 43 #[.pointer (some ⟨p, 0, none⟩)] W fun ee w' => ee = .returned (.tuple #[.int .i64 R.2.1, .int .i64 0]) ∧ ∃ sv', SStep w w' b sv sv' mb R.1) := fun W sv' lv' A => by
    have := whole_all A.st p lv' Q.2 A.blk A.row r4 (by omega) (by omega)
    rw [← eR, q1] at this
    refine this.mono ?_
    rintro ee w' ⟨h1, sv2, s⟩
    exact ⟨h1, sv2, (unhide HE _ _ _ _ _ A).trans s⟩
  have K4 : Hid (∀ W sv', SStep w W b sv sv' mb R.1 → Calls Try.prog 27 #[.pointer (some ⟨b, 0, none⟩), .agg #[.int .u8 4, .int .i64 12, .int .i64 s, .int .i64 R.2.1]] W fun ee w' => ee = .returned (.tuple #[.int .i64 (mkN R.1 ⟨4, 12, s, R.2.1⟩ : Nat), .int .i64 0]) ∧ ∃ sv', SStep w w' b sv sv' mb (mkL R.1 ⟨4, 12, s, R.2.1⟩)) := fun W sv' S => make_kdf S 12 s _ (by omega) (thr_mono hOs.1 q4) (Or.inr q2) (by omega)
  have HC4 : Hid (∀ W sv' X, SStep w W b sv sv' mb X → W.cell? ⟨p4, 0, none⟩ = some (.int .i64 (n : Int)) ∧ W.cell? ⟨p5, 0, none⟩ = some (.int .i64 s)) := fun W sv' X S => ⟨blk_cell (kept_fr c4 h S.fr (by decide) (by decide)) rfl, blk_cell (kept_fr c5 h S.fr (by decide) (by decide)) rfl⟩
  have d1 : w0.cell? ⟨p1, 0, none⟩ = some (.int .i64 g) := by rw [hw0]; exact blk_cell (kept_blk c1 (bwA' _ _)) rfl
  have d2 : w0.cell? ⟨p2, 0, none⟩ = some (.int .i64 e) := by rw [hw0]; exact blk_cell (kept_blk c2 (bwA' _ _)) rfl
  have d3 : w0.cell? ⟨p3, 0, none⟩ = some (.int .i64 d) := by rw [hw0]; exact blk_cell (kept_blk c3 (bwA' _ _)) rfl
  have HW := hide hw0
  have HPP := hide hp0
  clear h hg he hd hO hl c1 c2 c3 c4 c5 hOs q1 q2 q3 q4 l4 r4 l1 hw0 HA0 hp0 hP hQ hR eQ eR eP
  generalize mkN R.1 ⟨4, 12, s, R.2.1⟩ = X at *
  generalize mkL R.1 ⟨4, 12, s, R.2.1⟩ = L2 at *
  generalize R.2.1 = Y at *
  generalize R.1 = L1 at *
  go_enter Try.func40, Try.ntmps40
  go_upto_region 2 with fail
  rw [← unhide HW, ← unhide HPP]
  clear HW HPP
  go_wp2_with fail
  refine (unhide K1).mono ?_
  rintro ee w1 ⟨rfl, sv1, lv1, a1⟩
  have f1 := (unhide HC4 _ _ _ (unhide HE _ _ _ _ _ a1)).1
  have Q2 := hide (unhide K2 _ _ _ a1)
  clear a1 K1 K2 d1 d2 d3
  go_wp2_with fail
  refine (unhide Q2).mono ?_
  rintro ee w2 ⟨rfl, sv2, lv2, a2⟩
  have Q3 := hide (unhide K3 _ _ _ a2)
  clear a2 Q2 K3 f1
  go_wp2_with fail
  refine (unhide Q3).mono ?_
  rintro ee w3 ⟨rfl, sv3, s3⟩
  have f3 := (unhide HC4 _ _ _ s3).2
  have S3 := hide s3
  have KD := hide (acderived_any w3 12 s Y)
  clear s3 Q3 HC4 HE
  go_wp2_with fail
  refine (unhide KD).mono ?_
  rintro ee w4 ⟨rfl, b4⟩
  have Q4 := hide (unhide K4 w4 sv3 ((unhide S3).trans (SStep.same (unhide S3).st b4)))
  clear KD b4 S3 K4 f3
  go_wp2_with fail
  refine (unhide Q4).mono ?_
  rintro ee w5 ⟨rfl, s5⟩
  have S5 := hide s5
  clear s5 Q4
  go_wp2
  go_ret2
  exact ⟨rfl, unhide S5⟩
theorem blk5 (w : World) (o1 o2 o3 o4 o5 : Obj) : let W := ((((w.alloc o1).alloc o2).alloc o3).alloc o4).alloc o5
    W.heap[w.heap.size]? = some o1 ∧ W.heap[w.heap.size + 1]? = some o2 ∧ W.heap[w.heap.size + 1 + 1]? = some o3 ∧ W.heap[w.heap.size + 1 + 1 + 1]? = some o4 ∧ W.heap[w.heap.size + 1 + 1 + 1 + 1]? = some o5 ∧ Below w.heap.size w W := by
  have h1 := heap_alloc_new w o1
  have h2 := heap_alloc_new (w.alloc o1) o2
  have h3 := heap_alloc_new ((w.alloc o1).alloc o2) o3
  have h4 := heap_alloc_new (((w.alloc o1).alloc o2).alloc o3) o4
  have h5 := heap_alloc_new ((((w.alloc o1).alloc o2).alloc o3).alloc o4) o5
  simp only [heap_size_alloc] at h1 h2 h3 h4 h5
  exact ⟨blk_before (blk_before (blk_before (blk_before h1))), blk_before (blk_before (blk_before h2)), blk_before (blk_before h3), blk_before h4, h5, bw_tr (bwA' _ _) (bw_tr (bwA' _ _) (bw_tr (bwA' _ _) (bw_tr (bwA' _ _) (bwA' _ _))))⟩
set_option maxRecDepth 100000 in
set_option maxHeartbeats 4000000 in
theorem seed_any {b : Nat} {sv : Value} {mb : Nat} {L : List Tm} {w : World} (h : St w b sv mb L) (s g e d dg : Int) (hg : i64r g) (he : i64r e) (hd : i64r d) (hl : L.length + 200 ≤ 1048575) :
    Calls Try.prog 11 #[.pointer (some ⟨b, 0, none⟩), .int .i64 s, .int .i64 g, .int .i64 e, .int .i64 d, .int .i64 dg] w fun ee w' => ee = .returned (.tuple #[.int .i64 ((seedP L s g e d dg).2 : Nat), .int .i64 (seedE L s dg)]) ∧ ∃ sv', SStep w w' b sv sv' mb (seedP L s g e d dg).1 := by
  obtain ⟨w0, hw0⟩ : ∃ w0, w0 = ((((w.alloc (.cells #[.int .i64 s] 3)).alloc (.cells #[.int .i64 g] 3)).alloc (.cells #[.int .i64 e] 3)).alloc (.cells #[.int .i64 d] 3)).alloc (.cells #[.int .i64 dg] 3) := ⟨_, rfl⟩
  obtain ⟨y0, y1, y2, y3, y4, x0⟩ := blk5 w (.cells #[.int .i64 s] 3) (.cells #[.int .i64 g] 3) (.cells #[.int .i64 e] 3) (.cells #[.int .i64 d] 3) (.cells #[.int .i64 dg] 3)
  rw [← hw0] at y0 y1 y2 y3 y4 x0
  have S0 := SStep.same h x0
  have KMi := hide (hmissing_any S0.st)
  have KH : Hid (∀ W x, Below w0.heap.size w0 W → Calls Try.prog 39 #[.pointer (some ⟨b, 0, none⟩), .int .i64 x] W fun e w' => e = .returned (.bool (thr L.length x)) ∧ Below W.heap.size W w') := fun W x hW => hhas_any (h.bw (bw_tr x0 hW)) x
  have YY : Hid (∀ W, Below w0.heap.size w0 W → (W.cell? ⟨w.heap.size, 0, none⟩ = some (.int .i64 s) ∧ W.cell? ⟨w.heap.size + 1 + 1 + 1 + 1, 0, none⟩ = some (.int .i64 dg)) ∧ SStep w W b sv sv mb L) := fun W hW => ⟨⟨blk_cell (kept_blk y0 hW) rfl, blk_cell (kept_blk y4 hW) rfl⟩, SStep.same h (bw_tr x0 hW)⟩
  obtain ⟨z0, z4⟩ := (unhide YY w0 (Below.refl _ _)).1
  have KW : Hid (seedO L s dg = true → ∀ W, Below w0.heap.size w0 W → Calls Try.prog 33 #[.pointer (some ⟨b, 0, none⟩), .int .i64 7, .func (.func 40) #[] #[.pointer (some ⟨w.heap.size + 1, 0, none⟩), .pointer (some ⟨w.heap.size + 1 + 1, 0, none⟩), .pointer (some ⟨w.heap.size + 1 + 1 + 1, 0, none⟩), .pointer (some ⟨w.heap.size + 1 + 1 + 1 + 1, 0, none⟩), .pointer (some ⟨w.heap.size, 0, none⟩)]] W fun ee w' => ee = .returned (.tuple #[.int .i64 ((seedP L s g e d dg).2 : Nat), .int .i64 0]) ∧ ∃ sv', SStep w w' b sv sv' mb (seedP L s g e d dg).1) := fun hO W hW => by
    obtain ⟨-, S⟩ := unhide YY W hW
    refine (whole_seed S.st 7 (by omega) (by omega) (w.heap.size + 1) (w.heap.size + 1 + 1) (w.heap.size + 1 + 1 + 1) (w.heap.size + 1 + 1 + 1 + 1) w.heap.size ((seedP L s g e d dg).2 : Nat) (L' := (seedP L s g e d dg).1) (fun V hV => ?_)).mono ?_
    · obtain ⟨-, S'⟩ := unhide YY V (bw_tr hW hV)
      have bV := bw_tr hW hV
      refine (seed1_ok S'.st s g e d dg hg he hd hO (by omega) _ _ _ _ _ (kept_blk y1 bV) (kept_blk y2 bV) (kept_blk y3 bV) (kept_blk y4 bV) (kept_blk y0 bV)).mono ?_
      rintro ee w' ⟨h1, sv', s⟩
      exact ⟨h1, sv', (SStep.same S.st hV).trans s⟩
    · rintro ee w' ⟨h1, sv', s⟩
      exact ⟨h1, sv', S.trans s⟩
  obtain ⟨E, hE⟩ : ∃ E, E = seedE L s dg := ⟨_, rfl⟩
  obtain ⟨P, hP⟩ : ∃ P, P = seedP L s g e d dg := ⟨_, rfl⟩
  rw [← hP] at KW ⊢
  rw [← hE]
  unfold seedE at hE
  unfold seedP at hP
  have HEE := hide hE
  have HPP : Hid (seedO L s dg = false → P = (L, 0)) := fun c => by rw [hP, if_neg (by rw [c]; simp)]
  have HO : Hid (seedO L s dg = (thr L.length s && thr L.length dg)) := rfl
  have HW := hide hw0
  have KH1 := hide (unhide KH w0 s (Below.refl _ _))
  have KH2 : Hid (∀ W, Below w0.heap.size w0 W → Calls Try.prog 39 #[.pointer (some ⟨b, 0, none⟩), .int .i64 dg] W fun e w' => e = .returned (.bool (thr L.length dg)) ∧ Below W.heap.size W w') := fun W hW => unhide KH W dg hW
  clear h hl hw0 y0 y1 y2 y3 y4 x0 S0 hE hP hg he hd KH
  generalize thr L.length s = r1 at *
  generalize thr L.length dg = r2 at *
  generalize seedO L s dg = O at *
  go_enter Try.func11, Try.ntmps11
  go_upto_region 1 with fail
  rw [← unhide HW]
  clear HW
  go_wp2_with fail
  refine (unhide KMi).mono ?_
  rintro ee w1 ⟨rfl, rfl⟩
  clear KMi
  go_wp2_with fail
  refine (unhide KH1).mono ?_
  rintro ee w2 ⟨rfl, b2⟩
  obtain ⟨⟨d0, d4⟩, s2⟩ := unhide YY _ b2
  cases r1
  · obtain rfl : O = false := unhide HO
    obtain rfl : E = 1 := by rw [unhide HEE]; simp
    obtain rfl := unhide HPP rfl
    have S := hide s2
    clear HEE HPP KW YY KH1 KH2 HO s2 b2
    go_wp2
    go_ret2
    exact ⟨rfl, sv, unhide S⟩
  · have K2 := hide (unhide KH2 _ b2)
    clear KH1 KH2
    have B2 := hide b2
    clear b2 s2
    go_wp2_with fail
    refine (unhide K2).mono ?_
    rintro ee w3 ⟨rfl, b3⟩
    have b3' := bw_tr (unhide B2) b3
    obtain ⟨⟨e0, e4⟩, s3⟩ := unhide YY _ b3'
    cases r2
    · obtain rfl : O = false := unhide HO
      obtain rfl : E = 1 := by rw [unhide HEE]; simp
      obtain rfl := unhide HPP rfl
      have S := hide s3
      clear HEE HPP KW YY HO s3 b3 b3' B2 K2
      go_wp2
      go_ret2
      exact ⟨rfl, sv, unhide S⟩
    · obtain rfl : O = true := unhide HO
      obtain rfl : E = 0 := by rw [unhide HEE]; simp
      have K3 := hide (unhide KW rfl _ b3')
      clear HEE HPP KW YY HO s3 b3 b3' B2 K2
      go_wp2_with fail
      refine (unhide K3).mono ?_
      rintro ee w4 ⟨rfl, s4⟩
      have S4 := hide s4
      clear s4 K3 d0 d4 z0 z4 e0 e4
      go_wp2
      go_ret2
      exact ⟨rfl, unhide S4⟩
end Go.Proofs.Ytokdflbajnecpaa.Tn.Ax

/- Package account: Card and Own; each call without a store. -/
namespace Go.Proofs.Ytokdflbajnecpaa.Tn.Ax
open Go.RowKit Go.Maps
def cardK (L : List Tm) (s : Int) : List Tm × Nat := (mkL L ⟨4, 13, s, 0⟩, mkN L ⟨4, 13, s, 0⟩)
def cardU (L : List Tm) (s : Int) : List Tm × Nat := (mkL (cardK L s).1 ⟨5, 0, ((cardK L s).2 : Nat), 0⟩, mkN (cardK L s).1 ⟨5, 0, ((cardK L s).2 : Nat), 0⟩)
def argE (L : List Tm) (s : Int) : Int := if thr L.length s = true then 0 else 1
def cardL (L : List Tm) (s : Int) : List Tm := if thr L.length s = true then (cardU L s).1 else L
def cardA (L : List Tm) (s : Int) : Nat := if thr L.length s = true then (cardK L s).2 else 0
def cardB (L : List Tm) (s : Int) : Nat := if thr L.length s = true then (cardU L s).2 else 0
def ownL (L : List Tm) (s : Int) : List Tm := if thr L.length s = true then mkL L ⟨4, 14, s, 0⟩ else L
def ownA (L : List Tm) (s : Int) : Nat := if thr L.length s = true then mkN L ⟨4, 14, s, 0⟩ else 0
theorem may_pub {N : Nat} {a : Int} (ha : thr N a = true) : may N ⟨5, 0, a, 0⟩ = true := by simp [may, ha]
theorem ok_pub {a : Int} (h : 0 ≤ a ∧ a ≤ 1048577) : Tm.ok ⟨5, 0, a, 0⟩ := ⟨by simp, by simp, by simp, by simp, by simp; omega, by simp; omega, by simp, by simp⟩
theorem cardK_thr {L : List Tm} {s : Int} (hs : thr L.length s = true) (hl : L.length + 100 ≤ 1048576) : thr (cardK L s).1.length ((cardK L s).2 : Nat) = true ∧ (cardK L s).1.length ≤ L.length + 1 := ⟨(mkN_thr (may_kdf (by omega) hs (Or.inl rfl)) (by omega)).1, mkL_len _ _⟩
set_option maxRecDepth 100000 in
set_option maxHeartbeats 4000000 in
theorem card_ok {b : Nat} {sv : Value} {mb : Nat} {L : List Tm} {w : World} (h : St w b sv mb L) (s : Int) (hs : thr L.length s = true) (hl : L.length + 100 ≤ 1048576) :
    Calls Try.prog 48 #[.pointer (some ⟨b, 0, none⟩), .int .i64 s] w fun e w' => e = .returned (.tuple #[.agg #[.int .i64 ((cardK L s).2 : Nat), .int .i64 ((cardU L s).2 : Nat)], .int .i64 0]) ∧ ∃ sv', SStep w w' b sv sv' mb (cardU L s).1 := by
  obtain ⟨w0, hw0⟩ : ∃ w0, w0 = w.alloc (.cells #[.int .i64 0, .int .i64 0] 83) := ⟨_, rfl⟩
  have b0 : Below w.heap.size w w0 := by rw [hw0]; exact bwA' _ _
  have k0 : w0.heap[w.heap.size]? = some (.cells #[.int .i64 0, .int .i64 0] 83 (0, 0)) := by rw [hw0]; exact heap_alloc_new _ _
  obtain ⟨t1, l1⟩ := cardK_thr hs hl
  have h1 := h.bw b0
  have KD := hide (acderived_any w0 13 s 0)
  have K1 : Hid (∀ W, Below w0.heap.size w0 W → Calls Try.prog 27 #[.pointer (some ⟨b, 0, none⟩), .agg #[.int .u8 4, .int .i64 13, .int .i64 s, .int .i64 0]] W fun e w' => e = .returned (.tuple #[.int .i64 ((cardK L s).2 : Nat), .int .i64 0]) ∧ ∃ sv', SStep w0 w' b sv sv' mb (cardK L s).1) := fun W hW => make_kdf (SStep.same h1 hW) 13 s 0 (by omega) hs (Or.inl rfl) (by omega)
  have K2 : Hid (∀ W sv', SStep w0 W b sv sv' mb (cardK L s).1 → Calls Try.prog 27 #[.pointer (some ⟨b, 0, none⟩), .agg #[.int .u8 5, .int .i64 0, .int .i64 ((cardK L s).2 : Nat), .int .i64 0]] W fun e w' => e = .returned (.tuple #[.int .i64 ((cardU L s).2 : Nat), .int .i64 0]) ∧ ∃ sv', SStep w0 w' b sv sv' mb (cardU L s).1) := fun W sv' S => by
    refine (make_ok S.st 5 0 _ 0 (ok_pub (thr_rng t1 (by omega))) (may_pub t1) (by omega)).mono ?_
    rintro e w' ⟨h1, sv2, s⟩
    exact ⟨h1, sv2, S.trans s⟩
  have HF : Hid (∀ W sv', SStep w0 W b sv sv' mb (cardU L s).1 → W.heap[w.heap.size]? = some (.cells #[.int .i64 0, .int .i64 0] 83 (0, 0)) ∧ SStep w W b sv sv' mb (cardU L s).1) := fun W sv' S => ⟨kept_fr k0 h1 S.fr (by decide) (by decide), (SStep.same h b0).trans S⟩
  have HW := hide hw0
  clear h hs hl hw0 b0 k0 t1 l1 h1
  generalize (cardU L s).2 = Y at *
  generalize (cardU L s).1 = L2 at *
  generalize (cardK L s).2 = X at *
  generalize (cardK L s).1 = L1 at *
  go_enter Try.func48, Try.ntmps48
  go_upto_region 1 with fail
  rw [← unhide HW]
  clear HW
  go_wp2_with fail
  refine (unhide KD).mono ?_
  rintro e w1 ⟨rfl, b1⟩
  have Q1 := hide (unhide K1 _ b1)
  clear KD K1 b1
  go_wp2_with fail
  refine (unhide Q1).mono ?_
  rintro e w2 ⟨rfl, sv2, s2⟩
  have Q2 := hide (unhide K2 _ _ s2)
  clear Q1 K2 s2
  go_wp2_with fail
  refine (unhide Q2).mono ?_
  rintro e w3 ⟨rfl, sv3, s3⟩
  obtain ⟨k3, s3'⟩ := unhide HF _ _ s3
  have S3 := hide s3'
  have g0 : w3.cell? ⟨w.heap.size, 0, none⟩ = some (.int .i64 0) := blk_cell k3 rfl
  have g1 : w3.cell? ⟨w.heap.size, 1, none⟩ = some (.int .i64 0) := blk_cell k3 rfl
  have fz := fun j => blk_froz (i := j) k3
  have K3 := hide k3
  clear s3 s3' Q2 HF k3
  go_wp2
  obtain ⟨V, hV⟩ : ∃ V, V = (w3.setCell ⟨w.heap.size, 0, none⟩ (.int .i64 (X : Int))).setCell ⟨w.heap.size, 1, none⟩ (.int .i64 (Y : Int)) := ⟨_, rfl⟩
  rw [← hV]
  have kV : V.heap[w.heap.size]? = some (.cells #[.int .i64 (X : Int), .int .i64 (Y : Int)] 83 (0, 0)) := by
    rw [hV]
    have := poke_blk (i := 1) (poke_blk (i := 0) (unhide K3) (.int .i64 (X : Int))) (.int .i64 (Y : Int))
    simpa using this
  have SV : SStep w V b sv sv3 mb L2 := by
    rw [hV]
    exact ((unhide S3).poke (unhide K3) (by decide) (by decide) (Nat.le_refl _) _).poke (poke_blk (i := 0) (unhide K3) (.int .i64 (X : Int))) (by decide) (by decide) (Nat.le_refl _) _
  have v0 := blk_cell (i := 0) kV rfl
  have v1 := blk_cell (i := 1) kV rfl
  exact bodyPost_ret (v := .tuple #[.agg #[.int .i64 (X : Int), .int .i64 (Y : Int)], .int .i64 0]) (by simp [results, Try.results48, go_sem, v0, v1]) rfl ⟨rfl, sv3, SV⟩
set_option maxRecDepth 100000 in
set_option maxHeartbeats 4000000 in
theorem card1_ok {b : Nat} {sv : Value} {mb : Nat} {L : List Tm} {w : World} (h : St w b sv mb L) (s : Int) (hs : thr L.length s = true) (hl : L.length + 100 ≤ 1048576) (p1 : Nat) (c1 : w.heap[p1]? = some (.cells #[.int .i64 s] 3 (0, 0))) :
    Calls Try.prog 47 #[.pointer (some ⟨b, 0, none⟩), .pointer (some ⟨p1, 0, none⟩)] w fun e w' => e = .returned (.tuple #[.agg #[.int .i64 ((cardK L s).2 : Nat), .int .i64 ((cardU L s).2 : Nat)], .int .i64 0]) ∧ ∃ sv', SStep w w' b sv sv' mb (cardU L s).1 := by
  obtain ⟨w0, hw0⟩ : ∃ w0, w0 = w.alloc (.cells #[.int .i64 0, .int .i64 0] 83) := ⟨_, rfl⟩
  have b0 : Below w.heap.size w w0 := by rw [hw0]; exact bwA' _ _
  have k0 : w0.heap[w.heap.size]? = some (.cells #[.int .i64 0, .int .i64 0] 83 (0, 0)) := by rw [hw0]; exact heap_alloc_new _ _
  have h1 := h.bw b0
  have d1 : w0.cell? ⟨p1, 0, none⟩ = some (.int .i64 s) := blk_cell (kept_blk c1 b0) rfl
  have K1 := hide (card_ok h1 s hs hl)
  have HF : Hid (∀ W sv', SStep w0 W b sv sv' mb (cardU L s).1 → W.heap[w.heap.size]? = some (.cells #[.int .i64 0, .int .i64 0] 83 (0, 0)) ∧ SStep w W b sv sv' mb (cardU L s).1) := fun W sv' S => ⟨kept_fr k0 h1 S.fr (by decide) (by decide), (SStep.same h b0).trans S⟩
  have HW := hide hw0
  clear h hs hl hw0 b0 k0 h1 c1
  generalize (cardU L s).2 = Y at *
  generalize (cardU L s).1 = L2 at *
  generalize (cardK L s).2 = X at *
  go_enter Try.func47, Try.ntmps47
  go_upto_region 1 with fail
  rw [← unhide HW]
  clear HW
  go_wp2_with fail
  refine (unhide K1).mono ?_
  rintro e w3 ⟨rfl, sv3, s3⟩
  obtain ⟨k3, s3'⟩ := unhide HF _ _ s3
  have S3 := hide s3'
  have g0 : w3.cell? ⟨w.heap.size, 0, none⟩ = some (.int .i64 0) := blk_cell k3 rfl
  have g1 : w3.cell? ⟨w.heap.size, 1, none⟩ = some (.int .i64 0) := blk_cell k3 rfl
  have fz := fun j => blk_froz (i := j) k3
  have K3 := hide k3
  clear s3 s3' K1 HF k3 d1
  go_wp2
  obtain ⟨V, hV⟩ : ∃ V, V = (w3.setCell ⟨w.heap.size, 0, none⟩ (.int .i64 (X : Int))).setCell ⟨w.heap.size, 1, none⟩ (.int .i64 (Y : Int)) := ⟨_, rfl⟩
  rw [← hV]
  have kV : V.heap[w.heap.size]? = some (.cells #[.int .i64 (X : Int), .int .i64 (Y : Int)] 83 (0, 0)) := by
    rw [hV]
    have := poke_blk (i := 1) (poke_blk (i := 0) (unhide K3) (.int .i64 (X : Int))) (.int .i64 (Y : Int))
    simpa using this
  have SV : SStep w V b sv sv3 mb L2 := by
    rw [hV]
    exact ((unhide S3).poke (unhide K3) (by decide) (by decide) (Nat.le_refl _) _).poke (poke_blk (i := 0) (unhide K3) (.int .i64 (X : Int))) (by decide) (by decide) (Nat.le_refl _) _
  have v0 := blk_cell (i := 0) kV rfl
  have v1 := blk_cell (i := 1) kV rfl
  exact bodyPost_ret (v := .tuple #[.agg #[.int .i64 (X : Int), .int .i64 (Y : Int)], .int .i64 0]) (by simp [results, Try.results47, go_sem, v0, v1]) rfl ⟨rfl, sv3, SV⟩
set_option maxRecDepth 100000 in
set_option maxHeartbeats 4000000 in
theorem ccard_any {b : Nat} {sv : Value} {mb : Nat} {L : List Tm} {w : World} (h : St w b sv mb L) (s : Int) (hl : L.length + 200 ≤ 1048575) :
    Calls Try.prog 13 #[.pointer (some ⟨b, 0, none⟩), .int .i64 s] w fun e w' => e = .returned (.tuple #[.int .i64 (cardA L s : Nat), .int .i64 (cardB L s : Nat), .int .i64 (argE L s)]) ∧ ∃ sv', SStep w w' b sv sv' mb (cardL L s) := by
  obtain ⟨w0, hw0⟩ : ∃ w0, w0 = w.alloc (.cells #[.int .i64 s] 3) := ⟨_, rfl⟩
  have b0 : Below w.heap.size w w0 := by rw [hw0]; exact bwA' _ _
  have k0 : w0.heap[w.heap.size]? = some (.cells #[.int .i64 s] 3 (0, 0)) := by rw [hw0]; exact heap_alloc_new _ _
  have S0 := SStep.same h b0
  have KMi := hide (hmissing_any S0.st)
  have KH := hide (hhas_any S0.st s)
  have d0 : w0.cell? ⟨w.heap.size, 0, none⟩ = some (.int .i64 s) := blk_cell k0 rfl
  have YY : Hid (∀ W, Below w0.heap.size w0 W → W.cell? ⟨w.heap.size, 0, none⟩ = some (.int .i64 s) ∧ SStep w W b sv sv mb L) := fun W hW => ⟨blk_cell (kept_blk k0 hW) rfl, SStep.same h (bw_tr b0 hW)⟩
  have KW : Hid (thr L.length s = true → ∀ W, Below w0.heap.size w0 W → Calls Try.prog 46 #[.pointer (some ⟨b, 0, none⟩), .int .i64 2, .func (.func 47) #[] #[.pointer (some ⟨w.heap.size, 0, none⟩)]] W fun e w' => e = .returned (.tuple #[.agg #[.int .i64 (cardA L s : Nat), .int .i64 (cardB L s : Nat)], .int .i64 0]) ∧ ∃ sv', SStep w w' b sv sv' mb (cardL L s)) := fun hO W hW => by
    obtain ⟨-, S⟩ := unhide YY W hW
    rw [show cardA L s = (cardK L s).2 from if_pos hO, show cardB L s = (cardU L s).2 from if_pos hO, show cardL L s = (cardU L s).1 from if_pos hO]
    refine (whole_card S.st 2 (by omega) (by omega) w.heap.size ((cardK L s).2 : Nat) ((cardU L s).2 : Nat) (L' := (cardU L s).1) (fun V hV => ?_)).mono ?_
    · exact card1_ok (S.st.bw hV) s hO (by omega) _ (kept_blk k0 (bw_tr hW hV))
    · rintro ee w' ⟨h1, sv', s⟩
      exact ⟨h1, sv', S.trans s⟩
  have HN : Hid (thr L.length s = false → cardA L s = 0 ∧ cardB L s = 0 ∧ cardL L s = L ∧ argE L s = 1) := fun c => by simp [cardA, cardB, cardL, argE, c]
  have HP : Hid (thr L.length s = true → argE L s = 0) := fun c => by simp [argE, c]
  have HW := hide hw0
  clear h hl hw0 b0 k0 S0
  generalize thr L.length s = r at *
  generalize cardA L s = X at *
  generalize cardB L s = Y at *
  generalize cardL L s = L2 at *
  generalize argE L s = E at *
  go_enter Try.func13, Try.ntmps13
  go_upto_region 1 with fail
  rw [← unhide HW]
  clear HW
  go_wp2_with fail
  refine (unhide KMi).mono ?_
  rintro e w1 ⟨rfl, rfl⟩
  clear KMi
  go_wp2_with fail
  refine (unhide KH).mono ?_
  rintro e w2 ⟨rfl, b2⟩
  obtain ⟨e0, s2⟩ := unhide YY _ b2
  cases r
  · obtain ⟨rfl, rfl, rfl, rfl⟩ := unhide HN rfl
    have S := hide s2
    clear HN HP KW YY KH s2 b2
    go_wp2
    exact bodyPost_ret (v := .tuple #[.int .i64 0, .int .i64 0, .int .i64 1]) (by simp [results, Try.results13, go_sem]) rfl ⟨rfl, sv, unhide S⟩
  · obtain rfl := unhide HP rfl
    have K2 := hide (unhide KW rfl _ b2)
    clear HN HP KW YY KH s2 b2
    go_wp2_with fail
    refine (unhide K2).mono ?_
    rintro e w3 ⟨rfl, s3⟩
    have S3 := hide s3
    clear s3 K2 d0 e0
    go_wp2_with fail
    go_quiet (fail)
    go_wp2
    obtain ⟨sv3, s3⟩ := unhide S3
    exact bodyPost_ret (v := .tuple #[.int .i64 (X : Int), .int .i64 (Y : Int), .int .i64 0]) (by simp [results, Try.results13, go_sem]) rfl ⟨rfl, sv3, s3.trans (SStep.same s3.st (below_drewN (bwA' _ _) _))⟩
set_option maxRecDepth 100000 in
set_option maxHeartbeats 4000000 in
theorem own_any {b : Nat} {sv : Value} {mb : Nat} {L : List Tm} {w : World} (h : St w b sv mb L) (s : Int) (hl : L.length + 200 ≤ 1048575) :
    Calls Try.prog 15 #[.pointer (some ⟨b, 0, none⟩), .int .i64 s] w fun e w' => e = .returned (.tuple #[.int .i64 (ownA L s : Nat), .int .i64 (argE L s)]) ∧ ∃ sv', SStep w w' b sv sv' mb (ownL L s) := by
  have KMi := hide (hmissing_any h)
  have KH := hide (hhas_any h s)
  have KD : Hid (∀ W, Calls Try.prog 44 #[.int .i64 14, .int .i64 s, .int .i64 0] W fun e w' => e = .returned (.agg #[.int .u8 4, .int .i64 14, .int .i64 s, .int .i64 0]) ∧ Below W.heap.size W w') := fun W => acderived_any W 14 s 0
  have K1 : Hid (thr L.length s = true → ∀ W, Below w.heap.size w W → Calls Try.prog 27 #[.pointer (some ⟨b, 0, none⟩), .agg #[.int .u8 4, .int .i64 14, .int .i64 s, .int .i64 0]] W fun e w' => e = .returned (.tuple #[.int .i64 (ownA L s : Nat), .int .i64 0]) ∧ ∃ sv', SStep w w' b sv sv' mb (ownL L s)) := fun hs W hW => by
    rw [show ownA L s = mkN L ⟨4, 14, s, 0⟩ from if_pos hs, show ownL L s = mkL L ⟨4, 14, s, 0⟩ from if_pos hs]
    exact make_kdf (SStep.same h hW) 14 s 0 (by omega) hs (Or.inl rfl) (by omega)
  have HN : Hid (thr L.length s = false → ownA L s = 0 ∧ ownL L s = L ∧ argE L s = 1) := fun c => by simp [ownA, ownL, argE, c]
  have HP : Hid (thr L.length s = true → argE L s = 0) := fun c => by simp [argE, c]
  have HH := hide h
  clear h hl
  generalize thr L.length s = r at *
  generalize ownA L s = X at *
  generalize ownL L s = L2 at *
  generalize argE L s = E at *
  go_enter Try.func15, Try.ntmps15
  go_wp2_with fail
  refine (unhide KMi).mono ?_
  rintro e w1 ⟨rfl, rfl⟩
  clear KMi
  go_wp2_with fail
  refine (unhide KH).mono ?_
  rintro e w2 ⟨rfl, b2⟩
  cases r
  · obtain ⟨rfl, rfl, rfl⟩ := unhide HN rfl
    have S := hide (SStep.same (unhide HH) b2)
    clear HN HP K1 KH b2 HH KD
    go_wp2
    go_ret2
    exact ⟨rfl, sv, unhide S⟩
  · obtain rfl := unhide HP rfl
    have B2 := hide b2
    clear HN HP KH b2 HH
    go_wp2_with fail
    refine (unhide KD _).mono ?_
    rintro e w3 ⟨rfl, b3⟩
    have K2 := hide (unhide K1 (by first | rfl | trivial) _ (bw_tr (unhide B2) b3))
    clear KD b3 B2 K1
    go_wp2_with fail
    refine (unhide K2).mono ?_
    rintro e w4 ⟨rfl, s4⟩
    have S4 := hide s4
    clear s4 K2
    go_wp2
    go_ret2
    exact ⟨rfl, unhide S4⟩
end Go.Proofs.Ytokdflbajnecpaa.Tn.Ax

/- The document's account: its store and a row of numbers; its Digest. -/
namespace Go.Proofs.Ytokdflbajnecpaa.Tn
open Go.RowKit Go.Maps
theorem may_dat (N : Nat) (z : Int) : may N ⟨2, z, 0, 0⟩ = true := by simp [may]
theorem RStep.after {w w0 w1 : World} {b : Nat} {sv sv1 : Value} {L1 : List Tm} (k : RStep w w0 b sv sv1 L1) (h : Below w0.heap.size w0 w1) : RStep w w1 b sv sv1 L1 := k.trans (RStep.same k.st h)
theorem Rs.notin {w : World} {b : Nat} {sv : Value} {L : List Tm} {k : Nat} {cs : Array Value} {t : TypeId} (h : Rs w b sv L) (hk : w.heap[k]? = some (.cells cs t (0, 0))) (h1 : t ≠ 103) (h2 : t ≠ 55) : k ∉ rfoot b sv := by
  intro c
  rcases mem_rfoot.1 c with rfl | c
  · rw [h.blk] at hk; injection hk with hk; injection hk with _ hk; exact h1 hk.symm
  · obtain ⟨cur, e⟩ := h.row.block c; rw [e] at hk; injection hk with hk; injection hk with _ hk; exact h2 hk.symm
end Go.Proofs.Ytokdflbajnecpaa.Tn
namespace Go.Proofs.Ytokdflbajnecpaa.Tn.Ax
open Go.RowKit Go.Maps
structure RQ (w W : World) (b : Nat) (sv sv' : Value) (L' : List Tm) (lv : Value) (acc : List Nat) : Prop where
  s : RStep w W b sv sv' L'
  r : NRow w.heap.size W lv acc
theorem RQ.step {w W W' : World} {b : Nat} {sv sv1 sv2 : Value} {L1 L2 : List Tm} {lv : Value} {acc : List Nat} (h : RQ w W b sv sv1 L1 lv acc) (s : RStep W W' b sv1 sv2 L2) : RQ w W' b sv sv2 L2 lv acc :=
  ⟨h.s.trans s, h.r.keep (fun k hk => by obtain ⟨cur, e⟩ := h.r.block hk; exact s.fr.block k (lt_of_blk e) (h.s.st.notin e (by decide) (by decide)))⟩
theorem RQ.bw {w W W' : World} {b : Nat} {sv sv1 : Value} {L1 : List Tm} {lv : Value} {acc : List Nat} (h : RQ w W b sv sv1 L1 lv acc) (hb : Below W.heap.size W W') : RQ w W' b sv sv1 L1 lv acc := h.step (RStep.same h.s.st hb)
theorem RQ.grown {w W W5 : World} {b : Nat} {sv sv1 : Value} {L1 : List Tm} {lv v' : Value} {acc acc' : List Nat} {ob : Obj} (h : RQ w W b sv sv1 L1 lv acc) (hr : NRow w.heap.size W5 v' acc') (hg : (W.alloc ob).grownBy W5 lv.ownBlock) : RQ w W5 b sv sv1 L1 v' acc' := by
  have f1 : Fr lv.ownBlock.toList W W5 := ((Fr.refl lv.ownBlock.toList W).alloc ob).tr (Fr.ofGrown hg)
  exact ⟨⟨h.s.st.keep f1 (fun k hk c => by
      obtain ⟨cur, e⟩ := h.r.block (k := k) (by simpa using c)
      exact h.s.st.notin e (by decide) (by decide) hk), h.s.fr.trans f1 (fun _ _ c => c) (fun k hk c => by have := (h.r.lt k (by simpa using c)).1; omega), h.s.place⟩, hr⟩
theorem RQ.one {w W : World} {b : Nat} {sv sv1 : Value} {L1 : List Tm} (h : RStep w W b sv sv1 L1) (n : Nat) : RQ w (W.alloc (.cells #[.int .i64 (n : Int)] 3)) b sv sv1 L1 (.slice (some ⟨W.heap.size, 0, none⟩) 1 1) [n] := by
  refine ⟨h.trans (RStep.same h.st (bwA' _ _)), ?_⟩
  refine ⟨by simp, Or.inr ⟨W.heap.size, 1, _, rfl, h.fr.size, heap_alloc_new W _, ?_⟩⟩
  simp [maxLen]
end Go.Proofs.Ytokdflbajnecpaa.Tn.Ax

/- The document's Seed, Card and Own. -/
namespace Go.Proofs.Ytokdflbajnecpaa.Tn.Ax
open Go.RowKit Go.Maps
end Go.Proofs.Ytokdflbajnecpaa.Tn.Ax
