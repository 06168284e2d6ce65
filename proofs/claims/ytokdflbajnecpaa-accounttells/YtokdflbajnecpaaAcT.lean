/- The document's Seed, Card and Own. -/
import Derived.Test.YtokdflbajnecpaaAcR
namespace Go.Proofs.Ytokdflbajnecpaa.Tn.Ax
open Go.RowKit Go.Maps

theorem getd2 {b : Nat} {sv : Value} {L : List Tm} (x : Int) : ∃ t0 t1 t2 t3 : Int, ∀ w, Rs w b sv L → Calls Try.prog 36 #[.pointer (some ⟨b, 0, none⟩), .int .i64 x] w fun e w' => e = .returned (.tuple #[.agg #[.int .u8 t0, .int .i64 t1, .int .i64 t2, .int .i64 t3], .bool (thr L.length x)]) ∧ Below w.heap.size w w' := ⟨_, _, _, _, fun w h => rget_any b sv L x w h⟩
theorem rkdf_ok {b : Nat} {sv sv0 : Value} {L : List Tm} {w W : World} (S : RStep w W b sv0 sv L) (l s c : Int) (hl : 0 ≤ l ∧ l ≤ 100) (hs : thr L.length s = true) (hc : c = 0 ∨ thr L.length c = true) (hL : L.length < 1048576) :
    Calls Try.prog 45 #[.pointer (some ⟨b, 0, none⟩), .int .i64 l, .int .i64 s, .int .i64 c] W fun e w' => e = .returned (.int .i64 (mkN L ⟨4, l, s, c⟩ : Nat)) ∧ ∃ sv', RStep w w' b sv0 sv' (mkL L ⟨4, l, s, c⟩) := by
  have h1 := thr_rng hs (by omega)
  have h2 : 0 ≤ c ∧ c ≤ 1048577 := by rcases hc with rfl | hc; omega; exact thr_rng hc (by omega)
  refine (rkdf_any S.st l s c (ok_kdf (by omega)) (may_kdf hl.1 hs hc) hL).mono ?_
  rintro e w' ⟨h1, sv2, s2⟩
  exact ⟨h1, sv2, S.trans s2⟩
theorem nis_four (W : World) (x0 x1 x2 x3 : Nat) (hb : x0 ≤ 1048577 ∧ x1 ≤ 1048577 ∧ x2 ≤ 1048577 ∧ x3 ≤ 1048577) : NIs (W.alloc (.cells #[.int .i64 (x0 : Int), .int .i64 (x1 : Int), .int .i64 (x2 : Int), .int .i64 (x3 : Int)] 3)) (.slice (some ⟨W.heap.size, 0, none⟩) 4 4) [(x0 : Int), (x1 : Int), (x2 : Int), (x3 : Int)] := by
  refine ⟨_, _, rfl, by simp, fun z hz => ?_, Or.inr ⟨W.heap.size, 0, rfl, fun j u hj => ?_⟩⟩
  · simp at hz; omega
  · match j, hj with
    | 0, hj => cases hj; exact blk_cell (heap_alloc_new W _) rfl
    | 1, hj => cases hj; exact blk_cell (heap_alloc_new W _) rfl
    | 2, hj => cases hj; exact blk_cell (heap_alloc_new W _) rfl
    | 3, hj => cases hj; exact blk_cell (heap_alloc_new W _) rfl
set_option maxRecDepth 100000 in
set_option maxHeartbeats 8000000 in
theorem rseed_any {b : Nat} {sv : Value} {L : List Tm} {w : World} (h : Rs w b sv L) (s g e d dg : Int) (hg : i64r g) (he : i64r e) (hd : i64r d) (hl : L.length + 200 ≤ 1048575) :
    Calls Try.prog 12 #[.pointer (some ⟨b, 0, none⟩), .int .i64 s, .int .i64 g, .int .i64 e, .int .i64 d, .int .i64 dg] w fun ee w' => ee = .returned (.tuple #[.int .i64 ((seedP L s g e d dg).2 : Nat), .int .i64 (seedE L s dg)]) ∧ ∃ sv', RStep w w' b sv sv' (seedP L s g e d dg).1 := by
  obtain ⟨t0, t1, t2, t3, G1⟩ := getd2 (b := b) (sv := sv) (L := L) s
  obtain ⟨y0, y1, y2, y3, G2⟩ := getd2 (b := b) (sv := sv) (L := L) dg
  have KG1 := hide (G1 w h)
  have KG2 : Hid (∀ W ob, Below w.heap.size w W → Calls Try.prog 36 #[.pointer (some ⟨b, 0, none⟩), .int .i64 dg] (W.alloc ob) fun e w' => e = .returned (.tuple #[.agg #[.int .u8 y0, .int .i64 y1, .int .i64 y2, .int .i64 y3], .bool (thr L.length dg)]) ∧ ∀ ob, Below w.heap.size w (w'.alloc ob)) := fun W ob hW => by
    have hb := bw_tr hW (bwA' W ob)
    refine (G2 _ (h.bw hb)).mono ?_
    rintro e w' ⟨h1, h2⟩
    exact ⟨h1, fun ob => bw_tr (bw_tr hb h2) (bwA' _ _)⟩
  have KO : Hid (∀ W sv' X z, RStep w W b sv sv' X → i64r z → X.length < 1048576 → Calls Try.prog 37 #[.pointer (some ⟨b, 0, none⟩), .int .i64 z] W fun e w' => e = .returned (.int .i64 (mkN X ⟨2, z, 0, 0⟩ : Nat)) ∧ ∃ sv2, RStep w w' b sv sv2 (mkL X ⟨2, z, 0, 0⟩)) := fun W sv' X z S hz hX => by
    refine (rone_any S.st z hz hX).mono ?_
    rintro e w' ⟨h1, sv2, s⟩
    exact ⟨h1, sv2, S.trans s⟩
  obtain ⟨E, hE⟩ : ∃ E, E = seedE L s dg := ⟨_, rfl⟩
  obtain ⟨P, hP⟩ : ∃ P, P = seedP L s g e d dg := ⟨_, rfl⟩
  rw [← hP, ← hE]
  unfold seedE at hE
  unfold seedP at hP
  have HNO : Hid (seedO L s dg = false → P = (L, 0) ∧ E = 1) := fun c => ⟨by rw [hP, if_neg (by rw [c]; simp)], by rw [hE, if_neg (by rw [c]; simp)]⟩
  have HYES : Hid (seedO L s dg = true → P = (mkL (seedR L g e d dg).1 ⟨4, 12, s, (seedR L g e d dg).2.1⟩, mkN (seedR L g e d dg).1 ⟨4, 12, s, (seedR L g e d dg).2.1⟩) ∧ E = 0) := fun c => ⟨by rw [hP, if_pos c], by rw [hE, if_pos c]⟩
  have HO : Hid (seedO L s dg = (thr L.length s && thr L.length dg)) := rfl
  have HH := hide (And.intro h (And.intro hg (And.intro he (And.intro hd hl))))
  clear h hg he hd hl hE hP G1 G2
  obtain ⟨r1, hr1⟩ : ∃ r1, r1 = thr L.length s := ⟨_, rfl⟩
  obtain ⟨r2, hr2⟩ : ∃ r2, r2 = thr L.length dg := ⟨_, rfl⟩
  rw [← hr1] at KG1 HO
  rw [← hr2] at KG2 HO
  have HR12 := hide (And.intro hr1 hr2)
  clear hr1 hr2
  go_enter Try.func12, Try.ntmps12
  go_wp2_with fail
  refine (unhide KG1).mono ?_
  rintro ee w1 ⟨rfl, b1⟩
  have K2 := hide (unhide KG2 w1 (.cells #[.int .u8 t0, .int .i64 t1, .int .i64 t2, .int .i64 t3] 55) b1)
  clear KG1 KG2 b1
  go_wp2_with fail
  refine (unhide K2).mono ?_
  rintro ee w2 ⟨rfl, b2⟩
  have B2 := hide b2
  clear K2 b2
  by_cases hc : r1 = true ∧ r2 = true
  · obtain ⟨rfl, rfl⟩ := hc
    obtain ⟨hPe, rfl⟩ := unhide HYES (unhide HO)
    obtain ⟨h, hg, he, hd, hl⟩ := unhide HH
    obtain ⟨hs, hdg⟩ := unhide HR12
    obtain ⟨q1, q2, q3, q4⟩ := seedR_ok g e d hdg.symm (by omega)
    obtain ⟨n, rfl⟩ : ∃ n : Nat, dg = n := ⟨dg.toNat, by have := thr_iff.1 hdg.symm; omega⟩
    have hn := thr_rng hdg.symm (by omega)
    obtain ⟨W2, hW2⟩ : ∃ W2, W2 = w2.alloc (.cells #[.int .u8 y0, .int .i64 y1, .int .i64 y2, .int .i64 y3] 55) := ⟨_, rfl⟩
    have s0 : RStep w W2 b sv sv L := by rw [hW2]; exact RStep.same h (unhide B2 _)
    have HW2 := hide hW2
    obtain ⟨L1, hL1⟩ : ∃ L1, L1 = mkL L ⟨2, g, 0, 0⟩ := ⟨_, rfl⟩
    obtain ⟨n1, hn1⟩ : ∃ n1 : Nat, n1 = mkN L ⟨2, g, 0, 0⟩ := ⟨_, rfl⟩
    obtain ⟨L2, hL2⟩ : ∃ L2, L2 = mkL L1 ⟨2, e, 0, 0⟩ := ⟨_, rfl⟩
    obtain ⟨n2, hn2⟩ : ∃ n2 : Nat, n2 = mkN L1 ⟨2, e, 0, 0⟩ := ⟨_, rfl⟩
    obtain ⟨L3, hL3⟩ : ∃ L3, L3 = mkL L2 ⟨2, d, 0, 0⟩ := ⟨_, rfl⟩
    obtain ⟨n3, hn3⟩ : ∃ n3 : Nat, n3 = mkN L2 ⟨2, d, 0, 0⟩ := ⟨_, rfl⟩
    have l1 : L1.length ≤ L.length + 1 := by rw [hL1]; exact mkL_len _ _
    have l2 : L2.length ≤ L1.length + 1 := by rw [hL2]; exact mkL_len _ _
    have l3 : L3.length ≤ L2.length + 1 := by rw [hL3]; exact mkL_len _ _
    have m1 := (mkN_thr (may_dat L.length g) (by omega)).2
    have m2 := (mkN_thr (may_dat L1.length e) (by omega)).2
    have m3 := (mkN_thr (may_dat L2.length d) (by omega)).2
    rw [← hn1] at m1
    rw [← hn2] at m2
    rw [← hn3] at m3
    have eQ : seedQ L g e d (n : Int) = (L3, [n1, n2, n3, n]) := by rw [hn3, hL3, hn2, hL2, hn1, hL1]; simp [seedQ, dats, dat]
    obtain ⟨R, hR⟩ : ∃ R, R = seedR L g e d (n : Int) := ⟨_, rfl⟩
    have eR : R = ls L3 [(n1 : Int), (n2 : Int), (n3 : Int), (n : Int)] := by rw [hR]; unfold seedR; rw [eQ]; rfl
    rw [← hR] at q1 q2 q3 q4 hPe
    have K1 := hide (unhide KO W2 sv L g s0 hg (by omega))
    rw [← hL1, ← hn1] at K1
    have K2 : Hid (∀ W sv', RStep w W b sv sv' L1 → Calls Try.prog 37 #[.pointer (some ⟨b, 0, none⟩), .int .i64 e] W fun ee w' => ee = .returned (.int .i64 (n2 : Nat)) ∧ ∃ sv2, RStep w w' b sv sv2 L2) := fun W sv' S => by
      have := unhide KO W sv' L1 e S he (by omega)
      rw [← hL2, ← hn2] at this; exact this
    have K3 : Hid (∀ W sv', RStep w W b sv sv' L2 → Calls Try.prog 37 #[.pointer (some ⟨b, 0, none⟩), .int .i64 d] W fun ee w' => ee = .returned (.int .i64 (n3 : Nat)) ∧ ∃ sv2, RStep w w' b sv sv2 L3) := fun W sv' S => by
      have := unhide KO W sv' L2 d S hd (by omega)
      rw [← hL3, ← hn3] at this; exact this
    have K4 : Hid (∀ W sv', RStep w W b sv sv' L3 → Calls Try.prog 38 #[.pointer (some ⟨b, 0, none⟩), .slice (some ⟨W.heap.size, 0, none⟩) 4 4] (W.alloc (.cells #[.int .i64 (n1 : Int), .int .i64 (n2 : Int), .int .i64 (n3 : Int), .int .i64 (n : Int)] 3)) fun ee w' => ee = .returned (.tuple #[.int .i64 R.2.1, .int .i64 0]) ∧ ∃ sv2, RStep w w' b sv sv2 R.1) := fun W sv' S => by
      have := rlist_any b sv' L3 _ _ _ (S.after (bwA' W _)).st (nis_four W n1 n2 n3 n (by omega)) (fun _ x hx c => by
        cases hx
        exact absurd (S.st.lt _ c) (Nat.lt_irrefl _))
      rw [← eR, q1] at this
      refine this.mono ?_
      rintro ee w' ⟨h1, sv2, s⟩
      exact ⟨h1, sv2, (S.after (bwA' W _)).trans s⟩
    have K5 : Hid (∀ W sv', RStep w W b sv sv' R.1 → Calls Try.prog 45 #[.pointer (some ⟨b, 0, none⟩), .int .i64 12, .int .i64 s, .int .i64 R.2.1] W fun ee w' => ee = .returned (.int .i64 (P.2 : Nat)) ∧ ∃ sv2, RStep w w' b sv sv2 P.1) := fun W sv' S => by
      rw [hPe]
      exact rkdf_ok S 12 s _ (by omega) (thr_mono hs.symm q4) (Or.inr q2) (by omega)
    clear h hg he hd hl hs hdg q1 q2 q3 q4 hn hW2 s0 hL1 hn1 hL2 hn2 hL3 hn3 l1 l2 l3 m1 m2 m3 eQ hR eR hPe HNO HYES HO HH HR12 B2 KO
    generalize R.2.1 = Y at *
    generalize R.1 = L9 at *
    go_upto_region 3 with fail
    rw [← unhide HW2]
    clear HW2
    go_wp2_with fail
    refine (unhide K1).mono ?_
    rintro ee w3 ⟨rfl, sv3, s3⟩
    have Q2 := hide (unhide K2 _ _ s3)
    clear s3 K1 K2
    go_wp2_with fail
    refine (unhide Q2).mono ?_
    rintro ee w4 ⟨rfl, sv4, s4⟩
    have Q3 := hide (unhide K3 _ _ s4)
    clear s4 Q2 K3
    go_wp2_with fail
    refine (unhide Q3).mono ?_
    rintro ee w5 ⟨rfl, sv5, s5⟩
    have Q4 := hide (unhide K4 _ _ s5)
    clear s5 Q3 K4
    go_wp2_with fail
    refine (unhide Q4).mono ?_
    rintro ee w6 ⟨rfl, sv6, s6⟩
    have Q5 := hide (unhide K5 _ _ s6)
    clear s6 Q4 K5
    go_wp2_with fail
    refine (unhide Q5).mono ?_
    rintro ee w7 ⟨rfl, s7⟩
    have S7 := hide s7
    clear s7 Q5
    go_wp2
    go_ret2
    exact ⟨rfl, unhide S7⟩
  · obtain ⟨rfl, rfl⟩ := unhide HNO (by rw [unhide HO]; cases r1 <;> cases r2 <;> simp_all)
    have S : Hid (∀ ob, RStep w (w2.alloc ob) b sv sv L) := fun ob => RStep.same (unhide HH).1 (unhide B2 ob)
    clear HNO HYES HO HH HR12 B2 KO
    cases r1
    · go_wp2
      go_ret2
      exact ⟨rfl, sv, unhide S _⟩
    · cases r2
      · go_wp2
        go_ret2
        exact ⟨rfl, sv, unhide S _⟩
      · exact absurd ⟨rfl, rfl⟩ hc
set_option maxRecDepth 100000 in
set_option maxHeartbeats 4000000 in
theorem rcard_any {b : Nat} {sv : Value} {L : List Tm} {w : World} (h : Rs w b sv L) (s : Int) (hl : L.length + 200 ≤ 1048575) :
    Calls Try.prog 14 #[.pointer (some ⟨b, 0, none⟩), .int .i64 s] w fun e w' => e = .returned (.tuple #[.int .i64 (cardA L s : Nat), .int .i64 (cardB L s : Nat), .int .i64 (argE L s)]) ∧ ∃ sv', RStep w w' b sv sv' (cardL L s) := by
  obtain ⟨t0, t1, t2, t3, G1⟩ := getd2 (b := b) (sv := sv) (L := L) s
  have KG1 := hide (G1 w h)
  have HN : Hid (thr L.length s = false → cardA L s = 0 ∧ cardB L s = 0 ∧ cardL L s = L ∧ argE L s = 1) := fun c => by simp [cardA, cardB, cardL, argE, c]
  have HP : Hid (thr L.length s = true → argE L s = 0) := fun c => by simp [argE, c]
  have K1 : Hid (thr L.length s = true → ∀ W ob, Below w.heap.size w W → Calls Try.prog 45 #[.pointer (some ⟨b, 0, none⟩), .int .i64 13, .int .i64 s, .int .i64 0] (W.alloc ob) fun e w' => e = .returned (.int .i64 (cardA L s : Nat)) ∧ ∃ sv', RStep w w' b sv sv' (cardK L s).1) := fun hs W ob hW => by
    rw [show cardA L s = (cardK L s).2 from if_pos hs]
    exact rkdf_ok (RStep.same h (bw_tr hW (bwA' _ _))) 13 s 0 (by omega) hs (Or.inl rfl) (by omega)
  have K2 : Hid (thr L.length s = true → ∀ W sv', RStep w W b sv sv' (cardK L s).1 → Calls Try.prog 49 #[.pointer (some ⟨b, 0, none⟩), .int .i64 (cardA L s : Nat)] W fun e w' => e = .returned (.int .i64 (cardB L s : Nat)) ∧ ∃ sv', RStep w w' b sv sv' (cardL L s)) := fun hs W sv' S => by
    obtain ⟨t1, l1⟩ := cardK_thr hs (by omega : L.length + 100 ≤ 1048576)
    rw [show cardA L s = (cardK L s).2 from if_pos hs, show cardB L s = (cardU L s).2 from if_pos hs, show cardL L s = (cardU L s).1 from if_pos hs]
    refine (rpub_any S.st _ (ok_pub (thr_rng t1 (by omega))) (may_pub t1) (by omega)).mono ?_
    rintro e w' ⟨h1, sv2, s⟩
    exact ⟨h1, sv2, S.trans s⟩
  have HH := hide h
  clear h hl G1
  generalize (cardK L s).1 = L1 at *
  generalize thr L.length s = r at *
  generalize cardA L s = X at *
  generalize cardB L s = Y at *
  generalize cardL L s = L2 at *
  generalize argE L s = E at *
  go_enter Try.func14, Try.ntmps14
  go_wp2_with fail
  refine (unhide KG1).mono ?_
  rintro e w1 ⟨rfl, b1⟩
  cases r
  · obtain ⟨rfl, rfl, rfl, rfl⟩ := unhide HN rfl
    have S : Hid (∀ ob, RStep w (w1.alloc ob) b sv sv L2) := fun ob => RStep.same (unhide HH) (bw_tr b1 (bwA' _ _))
    clear HN HP K1 K2 KG1 b1 HH
    go_wp2
    exact bodyPost_ret (v := .tuple #[.int .i64 0, .int .i64 0, .int .i64 1]) (by simp [results, Try.results14, go_sem]) rfl ⟨rfl, sv, unhide S _⟩
  · obtain rfl := unhide HP (by first | rfl | trivial)
    have Q1 := hide (unhide K1 (by first | rfl | trivial) w1 (.cells #[.int .u8 t0, .int .i64 t1, .int .i64 t2, .int .i64 t3] 55) b1)
    have Q2 := hide (unhide K2 (by first | rfl | trivial))
    clear HN HP K1 K2 KG1 b1 HH
    go_wp2_with fail
    refine (unhide Q1).mono ?_
    rintro e w2 ⟨rfl, sv2, s2⟩
    have Q3 := hide (unhide Q2 _ _ s2)
    clear Q1 Q2 s2
    go_wp2_with fail
    refine (unhide Q3).mono ?_
    rintro e w3 ⟨rfl, s3⟩
    have S3 := hide s3
    clear s3 Q3
    go_wp2
    exact bodyPost_ret (v := .tuple #[.int .i64 (X : Int), .int .i64 (Y : Int), .int .i64 0]) (by simp [results, Try.results14, go_sem]) rfl ⟨rfl, unhide S3⟩
set_option maxRecDepth 100000 in
set_option maxHeartbeats 4000000 in
theorem rown_any {b : Nat} {sv : Value} {L : List Tm} {w : World} (h : Rs w b sv L) (s : Int) (hl : L.length + 200 ≤ 1048575) :
    Calls Try.prog 16 #[.pointer (some ⟨b, 0, none⟩), .int .i64 s] w fun e w' => e = .returned (.tuple #[.int .i64 (ownA L s : Nat), .int .i64 (argE L s)]) ∧ ∃ sv', RStep w w' b sv sv' (ownL L s) := by
  obtain ⟨t0, t1, t2, t3, G1⟩ := getd2 (b := b) (sv := sv) (L := L) s
  have KG1 := hide (G1 w h)
  have HN : Hid (thr L.length s = false → ownA L s = 0 ∧ ownL L s = L ∧ argE L s = 1) := fun c => by simp [ownA, ownL, argE, c]
  have HP : Hid (thr L.length s = true → argE L s = 0) := fun c => by simp [argE, c]
  have K1 : Hid (thr L.length s = true → ∀ W ob, Below w.heap.size w W → Calls Try.prog 45 #[.pointer (some ⟨b, 0, none⟩), .int .i64 14, .int .i64 s, .int .i64 0] (W.alloc ob) fun e w' => e = .returned (.int .i64 (ownA L s : Nat)) ∧ ∃ sv', RStep w w' b sv sv' (ownL L s)) := fun hs W ob hW => by
    rw [show ownA L s = mkN L ⟨4, 14, s, 0⟩ from if_pos hs, show ownL L s = mkL L ⟨4, 14, s, 0⟩ from if_pos hs]
    exact rkdf_ok (RStep.same h (bw_tr hW (bwA' _ _))) 14 s 0 (by omega) hs (Or.inl rfl) (by omega)
  have HH := hide h
  clear h hl G1
  generalize thr L.length s = r at *
  generalize ownA L s = X at *
  generalize ownL L s = L2 at *
  generalize argE L s = E at *
  go_enter Try.func16, Try.ntmps16
  go_wp2_with fail
  refine (unhide KG1).mono ?_
  rintro e w1 ⟨rfl, b1⟩
  cases r
  · obtain ⟨rfl, rfl, rfl⟩ := unhide HN rfl
    have S : Hid (∀ ob, RStep w (w1.alloc ob) b sv sv L2) := fun ob => RStep.same (unhide HH) (bw_tr b1 (bwA' _ _))
    clear HN HP K1 KG1 b1 HH
    go_wp2
    go_ret2
    exact ⟨rfl, sv, unhide S _⟩
  · obtain rfl := unhide HP (by first | rfl | trivial)
    have Q1 := hide (unhide K1 (by first | rfl | trivial) w1 (.cells #[.int .u8 t0, .int .i64 t1, .int .i64 t2, .int .i64 t3] 55) b1)
    clear HN HP K1 KG1 b1 HH
    go_wp2_with fail
    refine (unhide Q1).mono ?_
    rintro e w2 ⟨rfl, s2⟩
    have S2 := hide s2
    clear Q1 s2
    go_wp2
    go_ret2
    exact ⟨rfl, unhide S2⟩
end Go.Proofs.Ytokdflbajnecpaa.Tn.Ax
