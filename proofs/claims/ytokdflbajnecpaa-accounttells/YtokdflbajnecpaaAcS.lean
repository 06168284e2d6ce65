/- The document's Digest. -/
import Derived.Test.YtokdflbajnecpaaAcR
namespace Go.Proofs.Ytokdflbajnecpaa.Tn.Ax
open Go.RowKit Go.Maps

theorem getd {b : Nat} {sv : Value} {L : List Tm} {w : World} (h : Rs w b sv L) (x : Int) : ∃ t0 t1 t2 t3 : Int, Calls Try.prog 36 #[.pointer (some ⟨b, 0, none⟩), .int .i64 x] w fun e w' => e = .returned (.tuple #[.agg #[.int .u8 t0, .int .i64 t1, .int .i64 t2, .int .i64 t3], .bool (thr L.length x)]) ∧ Below w.heap.size w w' := ⟨_, _, _, _, rget_any b sv L x w h⟩
theorem nrow_zero {B : Nat} {w : World} {v : Value} {l : List Nat} (h : NRow B w v l) : NRow 0 w v l := ⟨h.1, h.2.imp id (fun ⟨g, cap, cur, a, _, c⟩ => ⟨g, cap, cur, a, Nat.zero_le _, c⟩)⟩
theorem dat_eq (P : List Tm × List Nat) (z : Int) : dats P [z] = (mkL P.1 ⟨2, z, 0, 0⟩, P.2 ++ [mkN P.1 ⟨2, z, 0, 0⟩]) := rfl
set_option maxRecDepth 100000 in
set_option maxHeartbeats 16000000 in
theorem rdigest_any {b : Nat} {sv : Value} {L : List Tm} {w : World} (h : Rs w b sv L) (va : Value) (adds : List Ad) (hva : ∀ V, Fr (rfoot b sv) w V → Ads V va adds) (vr : Value) (rem : List Int) (hvr : ∀ V, Fr (rfoot b sv) w V → NIs V vr rem) (hl : L.length + 200 ≤ 1048575) :
    Calls Try.prog 10 #[.pointer (some ⟨b, 0, none⟩), va, vr] w fun e w' => e = .returned (.tuple #[.int .i64 ((digP L adds rem).2 : Nat), .int .i64 (digE L adds rem)]) ∧ ∃ sv', RStep w w' b sv sv' (digP L adds rem).1 := by
  obtain ⟨a1, ca1, rfl⟩ := (hva w (Fr.refl _ _)).shape
  obtain ⟨a2, ca2, rfl⟩ := nis_shape (hvr w (Fr.refl _ _))
  have hlA : adds.length ≤ 140737488355328 := by obtain ⟨_, _, _, h, _⟩ := hva w (Fr.refl _ _); exact h
  have hlR : rem.length ≤ 140737488355328 := by obtain ⟨_, _, _, h, _⟩ := hvr w (Fr.refl _ _); exact h
  have hzr : ∀ z ∈ rem, i64r z := by obtain ⟨_, _, _, _, h, _⟩ := hvr w (Fr.refl _ _); exact h
  have hza : ∀ a ∈ adds, a.ok := by obtain ⟨_, _, _, _, h, _⟩ := hva w (Fr.refl _ _); exact h
  obtain ⟨N, hN⟩ : ∃ N, N = adds.length := ⟨_, rfl⟩
  obtain ⟨M, hM⟩ : ∃ M, M = rem.length := ⟨_, rfl⟩
  rw [← hN] at hva hlA ⊢
  rw [← hM] at hvr hlR ⊢
  have hNb : (N : Int) ≤ 140737488355328 := by omega
  have hMb : (M : Int) ≤ 140737488355328 := by omega
  have HE : Hid (digO L adds rem = (decide (N ≤ 8) && decide (M ≤ 8) && pubs L.length adds)) := by rw [hN, hM]; rfl
  obtain ⟨E, hE⟩ : ∃ E, E = digE L adds rem := ⟨_, rfl⟩
  obtain ⟨P, hP⟩ : ∃ P, P = digP L adds rem := ⟨_, rfl⟩
  rw [← hP, ← hE]
  unfold digE at hE
  unfold digP at hP
  have HNO : Hid (digO L adds rem = false → P = (L, 0) ∧ E = 1) := fun c => ⟨by rw [hP, if_neg (by rw [c]; simp)], by rw [hE, if_neg (by rw [c]; simp)]⟩
  have HYES : Hid (digO L adds rem = true → P = (mkL (digR L adds rem).1 ⟨7, 0, (digR L adds rem).2.1, 0⟩, mkN (digR L adds rem).1 ⟨7, 0, (digR L adds rem).2.1, 0⟩) ∧ E = 0) := fun c => ⟨by rw [hP, if_pos c], by rw [hE, if_pos c]⟩
  have HH := hide (And.intro h (And.intro hva (And.intro hvr (And.intro hl (And.intro hzr hza)))))
  have HNM := hide (And.intro hN hM)
  clear h hva hvr hl hN hM hE hP hlA hlR hzr hza
  by_cases n8 : 8 < N
  · have n8' : (8 : Int) < (N : Int) := by omega
    obtain ⟨rfl, rfl⟩ := unhide HNO (by rw [unhide HE]; simp; omega)
    have S := hide (RStep.refl (unhide HH).1)
    clear HE HNO HYES n8 HH HNM
    go_enter Try.func10, Try.ntmps10
    go_wp2
    go_ret2
    exact ⟨rfl, sv, unhide S⟩
  have n8' : decide ((8 : Int) < (N : Int)) = false := decide_eq_false (by omega)
  have n8'' : (N : Int) ≤ 8 := by omega
  by_cases m8 : 8 < M
  · have m8' : (8 : Int) < (M : Int) := by omega
    obtain ⟨rfl, rfl⟩ := unhide HNO (by rw [unhide HE]; simp; omega)
    have S := hide (RStep.refl (unhide HH).1)
    clear HE HNO HYES n8 m8 HH HNM
    go_enter Try.func10, Try.ntmps10
    go_wp2
    go_ret2
    exact ⟨rfl, sv, unhide S⟩
  have m8' : decide ((8 : Int) < (M : Int)) = false := decide_eq_false (by omega)
  have m8'' : (M : Int) ≤ 8 := by omega
  have HO : Hid (digO L adds rem = pubs L.length adds) := by unfold Hid; rw [unhide HE, decide_eq_true (by omega : N ≤ 8), decide_eq_true (by omega : M ≤ 8)]; rfl
  clear HE n8 m8
  obtain ⟨j0, hj, hy0, hy1, hy2⟩ := info_parts Try.infoInt
  go_enter Try.func10, Try.ntmps10
  go_wp2_with fail
  clear hj hy0 hy1 hy2
  go_loopw [8] (fun iv wr => ∃ (k : Nat), k ≤ N ∧ iv = .int .i64 (k : Int) ∧ Hid (Below w.heap.size w wr ∧ ∀ i x, i < k → adds[i]? = some x → thr L.length x.p = true)) (fun iv _ => (N - intOf iv).toNat)
  case atStart => exact ⟨0, Nat.zero_le _, rfl, Below.refl _ _, fun i x hi => by omega⟩
  case round =>
    obtain ⟨k, hk, rfl, HR⟩ := hrel
    by_cases hlt : k < N
    · obtain ⟨h, hva, -⟩ := unhide HH
      obtain ⟨z, hzk⟩ : ∃ z, adds[k]? = some z := ⟨_, List.getElem?_eq_getElem (by rw [← (unhide HNM).1]; exact hlt)⟩
      obtain ⟨hb, hp⟩ := unhide HR
      obtain ⟨g, o, rfl, c0, c1, c2⟩ := (hva wr ((Fr.ofBelow hb).mono (fun _ _ c => by cases c))).get hzk
      obtain ⟨m, e, pb⟩ := z
      simp only at c0 c1 c2
      obtain ⟨t0, t1, t2, t3, KG⟩ := getd (h.bw hb) pb
      have KG := hide KG
      obtain ⟨r, hr⟩ : ∃ r, r = thr L.length pb := ⟨_, rfl⟩
      rw [← hr] at KG
      have HB := hide hb
      have HP := hide (And.intro hp (And.intro hzk hr))
      have hkI : (k : Int) < (N : Int) := by omega
      clear h hva hb hp hzk hr HR
      go_wp2_with fail
      refine (unhide KG).mono ?_
      rintro e2 w2 ⟨rfl, b2⟩
      have B2 : Hid (∀ ob, Below w.heap.size w (w2.alloc ob)) := fun ob => bw_tr (unhide HB) (bw_tr b2 (bwA' _ _))
      clear KG b2 HB c0 c1 c2
      cases r
      · obtain ⟨rfl, rfl⟩ := unhide HNO (by
          rw [unhide HO]
          refine Bool.eq_false_iff.2 (fun c => ?_)
          have := List.all_eq_true.1 c _ (List.mem_of_getElem? (unhide HP).2.1)
          rw [← (unhide HP).2.2] at this
          cases this)
        have S : Hid (∀ ob, RStep w (w2.alloc ob) b sv sv L) := fun ob => RStep.same (unhide HH).1 (unhide B2 ob)
        clear HP HO HH HNM B2 HNO HYES
        go_wp2
        go_ret2
        exact ⟨rfl, sv, unhide S _⟩
      · have HR2 : Hid (∀ ob, Below w.heap.size w (w2.alloc ob) ∧ ∀ i x, i < k + 1 → adds[i]? = some x → thr L.length x.p = true) := fun ob => ⟨unhide B2 ob, fun i x hi hx => by
          rcases Nat.lt_or_ge i k with q | q
          · exact (unhide HP).1 i x q hx
          · obtain rfl : i = k := by omega
            rw [(unhide HP).2.1] at hx
            cases hx
            exact (unhide HP).2.2.symm⟩
        clear HP B2
        go_wp2_with fail
        go_roundw
        case rel => exact ⟨k + 1, by omega, by go_num, unhide HR2 _⟩
        case measure => simp only [intOf]; omega
    · have e9 : k = N := by omega
      subst e9
      have hall : ∀ a ∈ adds, thr L.length a.p = true := fun x hx => by
        obtain ⟨i, hi, rfl⟩ := List.getElem_of_mem hx
        exact (unhide HR).2 i _ (by have := (unhide HNM).1; omega) (List.getElem?_eq_getElem hi)
      have hOt : digO L adds rem = true := by rw [unhide HO]; exact List.all_eq_true.2 hall
      obtain ⟨hPe, rfl⟩ := unhide HYES hOt
      obtain ⟨h, hva, hvr, hl, hzr, hza⟩ := unhide HH
      obtain ⟨q1, q2, q3, q4⟩ := digR_ok hOt (by omega)
      have s0 := RStep.same h (unhide HR).1
      have KO : Hid (∀ W sv' X z, RStep w W b sv sv' X → i64r z → X.length < 1048576 → Calls Try.prog 37 #[.pointer (some ⟨b, 0, none⟩), .int .i64 z] W fun e w' => e = .returned (.int .i64 (mkN X ⟨2, z, 0, 0⟩ : Nat)) ∧ ∃ sv2, RStep W w' b sv' sv2 (mkL X ⟨2, z, 0, 0⟩)) := fun W sv' X z S hz hX => rone_any S.st z hz hX
      have l1 := dats_len [(k : Int)] (L, [])
      obtain ⟨P1, hP1⟩ : ∃ P1, P1 = dats (L, []) [(k : Int)] := ⟨_, rfl⟩
      rw [← hP1] at l1
      simp only [List.length_cons, List.length_nil] at l1
      have l2 := adsP_len adds P1
      obtain ⟨P2, hP2⟩ : ∃ P2, P2 = adsP P1 adds := ⟨_, rfl⟩
      rw [← hP2, ← (unhide HNM).1] at l2
      have l3 := dats_len [(M : Int)] P2
      obtain ⟨P3, hP3⟩ : ∃ P3, P3 = dats P2 [(M : Int)] := ⟨_, rfl⟩
      rw [← hP3] at l3
      simp only [List.length_cons, List.length_nil] at l3
      have l4 := dats_len rem P3
      obtain ⟨P4, hP4⟩ : ∃ P4, P4 = dats P3 rem := ⟨_, rfl⟩
      rw [← hP4, ← (unhide HNM).2] at l4
      have e4 : P4 = chP L adds rem := by rw [hP4, hP3, hP2, hP1, (unhide HNM).1, (unhide HNM).2]; rfl
      have r4 := chP_rg rem hall (by have := unhide HNM; omega)
      rw [← e4] at r4
      obtain ⟨R, hR⟩ : ∃ R, R = digR L adds rem := ⟨_, rfl⟩
      have eR : R = ls P4.1 (cI P4.2) := by rw [hR, e4]; rfl
      rw [← hR] at q1 q2 q3 q4 hPe
      have KL : Hid (∀ W sv' lv, RQ w W b sv sv' P4.1 lv P4.2 → Calls Try.prog 38 #[.pointer (some ⟨b, 0, none⟩), lv] W fun e w' => e = .returned (.tuple #[.int .i64 R.2.1, .int .i64 0]) ∧ ∃ sv2, RStep w w' b sv sv2 R.1) := fun W sv' lv Q => by
        have := rlist_any b sv' P4.1 lv (cI P4.2) W Q.s.st (AS.nis (nrow_zero Q.r) r4 (by omega) (by omega)) (fun _ x hx => Q.r.rfoot Q.s.st x hx)
        rw [← eR, q1] at this
        refine this.mono ?_
        rintro e w' ⟨h1, sv2, s⟩
        exact ⟨h1, sv2, Q.s.trans s⟩
      have KM : Hid (∀ W sv', RStep w W b sv sv' R.1 → Calls Try.prog 28 #[.pointer (some ⟨b, 0, none⟩), .agg #[.int .u8 7, .int .i64 0, .int .i64 R.2.1, .int .i64 0]] W fun e w' => e = .returned (.tuple #[.int .i64 (P.2 : Nat), .int .i64 0]) ∧ ∃ sv', RStep w w' b sv sv' P.1) := fun W sv' S => by
        rw [hPe]
        refine (rmake_ok S.st 7 0 _ 0 (ok_hash (thr_rng q2 (by omega))) (may_hash q2) (by omega)).mono ?_
        rintro e w' ⟨h1, sv2, s⟩
        exact ⟨h1, sv2, S.trans s⟩
      have K1 := hide (unhide KO wr sv L (k : Int) s0 (by unfold i64r; omega) (by omega))
      have HP1 : Hid (P1 = (mkL L ⟨2, (k : Int), 0, 0⟩, [mkN L ⟨2, (k : Int), 0, 0⟩])) := hP1
      obtain ⟨n0, hn0⟩ : ∃ n0 : Nat, n0 = mkN L ⟨2, (k : Int), 0, 0⟩ := ⟨_, rfl⟩
      rw [← hn0] at K1 HP1
      have S0 := hide s0
      have HQ1 : Hid (∀ W sv2, RStep wr W b sv sv2 (mkL L ⟨2, (k : Int), 0, 0⟩) → RQ w (W.alloc (.cells #[.int .i64 (n0 : Int)] 3)) b sv sv2 P1.1 (.slice (some ⟨W.heap.size, 0, none⟩) 1 1) P1.2) := fun W sv2 s => by
        rw [unhide HP1]
        exact RQ.one ((unhide S0).trans s) n0
      have HL2 : Hid (∀ i, i ≤ k → (adsP P1 (adds.take i)).1.length + 40 ≤ 1048576 ∧ (adsP P1 (adds.take i)).2.length ≤ 60) := fun i hi => by
        have := adsP_len (adds.take i) P1
        rw [List.length_take] at this
        omega
      have HL4 : Hid (∀ i, i ≤ M → (dats P3 (rem.take i)).1.length + 20 ≤ 1048576 ∧ (dats P3 (rem.take i)).2.length ≤ 60) := fun i hi => by
        have := dats_len (rem.take i) P3
        rw [List.length_take] at this
        omega
      have HT : Hid (adsP P1 (adds.take k) = P2 ∧ dats P3 (rem.take M) = P4) := ⟨by rw [hP2, (unhide HNM).1, List.take_of_length_le (Nat.le_refl _)], by rw [hP4, (unhide HNM).2, List.take_of_length_le (Nat.le_refl _)]⟩
      have HP3 : Hid (P3 = dats P2 [(M : Int)] ∧ P2.1.length + 40 ≤ 1048576 ∧ P2.2.length ≤ 60) := ⟨hP3, by omega, by omega⟩
      have HV := hide (And.intro hva (And.intro hvr (And.intro hzr (And.intro hza hall))))
      have HXX : Hid (P.2 = P.2) := rfl
      clear hall hOt hPe h hva hvr hl hzr hza q1 q2 q3 q4 s0 l1 hP1 l2 hP2 l3 hP3 l4 hP4 e4 r4 hR eR hn0 HH HYES HNO HO HR S0 HP1 hlt hk
      obtain ⟨j0, hj, hy0, hy1, hy2⟩ := info_parts Try.infoInt
      generalize R.2.1 = Y at *
      generalize R.1 = L9 at *
      go_wp2_with fail
      refine (unhide K1).mono ?_
      rintro e w1 ⟨rfl, sv1, s1⟩
      have R1 := hide (unhide HQ1 _ _ s1)
      clear s1 K1 HQ1
      go_wp2_with fail
      go_loopw [11, 12] (fun lv iv wr => ∃ (i : Nat), i ≤ k ∧ iv = .int .i64 (i : Int) ∧ Hid (∃ sv', RQ w wr b sv sv' (adsP P1 (adds.take i)).1 lv (adsP P1 (adds.take i)).2)) (fun _ iv _ => (k - intOf iv).toNat)
      case atStart => exact ⟨0, Nat.zero_le _, rfl, sv1, unhide R1⟩
      case round =>
        clear R1
        obtain ⟨i, hi, rfl, HR⟩ := hrel
        by_cases hlt : i < k
        · obtain ⟨z, hzk⟩ : ∃ z, adds[i]? = some z := ⟨_, List.getElem?_eq_getElem (by rw [← (unhide HNM).1]; exact hlt)⟩
          obtain ⟨sv2, Q⟩ := unhide HR
          obtain ⟨hva, -, -, hza, hall⟩ := unhide HV
          obtain ⟨hz1, hz2, hz3⟩ := hza z (List.mem_of_getElem? hzk)
          have hzt := hall z (List.mem_of_getElem? hzk)
          obtain ⟨g, o, rfl, c0, c1, c2⟩ := (hva wr Q.s.fr).get hzk
          have HC : Hid (∀ W, Fr (rfoot b sv) w W → W.cell? ⟨g, o + i * 3, none⟩ = some (.int .i64 z.m) ∧ W.cell? ⟨g, o + i * 3 + 1, none⟩ = some (.int .i64 z.e) ∧ W.cell? ⟨g, o + i * 3 + 2, none⟩ = some (.int .i64 z.p)) := fun W hW => by
            obtain ⟨g', o', e, hc⟩ := (hva W hW).get hzk
            cases e
            exact hc
          obtain ⟨q1, q2⟩ := unhide HL2 i hi
          have e5 := adsP_snoc P1 adds i z hzk
          obtain ⟨X, hX⟩ : ∃ X, X = adsP P1 (adds.take i) := ⟨_, rfl⟩
          rw [← hX] at Q q1 q2 e5
          obtain ⟨m, ep, pb⟩ := z
          simp only at c0 c1 c2 hzt hz1 hz2 hz3 HC
          obtain ⟨n, rfl⟩ : ∃ n : Nat, pb = n := ⟨pb.toNat, by have := thr_iff.1 hzt; omega⟩
          obtain ⟨M1, hM1⟩ : ∃ M1, M1 = mkL X.1 ⟨2, m, 0, 0⟩ := ⟨_, rfl⟩
          have lM1 := mkL_len X.1 ⟨2, m, 0, 0⟩
          rw [← hM1] at lM1
          have bD : Below wr.heap.size wr wr.drew := (Below.refl _ _).drew
          have QD := Q.bw bD
          have K1 := hide (unhide KO wr.drew sv2 X.1 m QD.s hz1 (by omega))
          obtain ⟨n1, hn1⟩ : ∃ n1 : Nat, n1 = mkN X.1 ⟨2, m, 0, 0⟩ := ⟨_, rfl⟩
          rw [← hn1, ← hM1] at K1
          obtain ⟨n2, hn2⟩ : ∃ n2 : Nat, n2 = mkN M1 ⟨2, ep, 0, 0⟩ := ⟨_, rfl⟩
          obtain ⟨M2, hM2⟩ : ∃ M2, M2 = mkL M1 ⟨2, ep, 0, 0⟩ := ⟨_, rfl⟩
          have HNX : Hid (adsP P1 (adds.take (i + 1)) = (M2, X.2 ++ [n1, n2, n])) := by
            unfold Hid
            rw [e5, hM2, hn2, hn1, hM1]
            simp [adP, dats, dat]
          have HSt : Hid (∀ z9 sv9, RStep wr.drew z9 b sv2 sv9 M1 → (z9.cell? ⟨g, o + i * 3, none⟩ = some (.int .i64 m) ∧ z9.cell? ⟨g, o + i * 3 + 1, none⟩ = some (.int .i64 ep) ∧ z9.cell? ⟨g, o + i * 3 + 2, none⟩ = some (.int .i64 (n : Int))) ∧ Calls Try.prog 37 #[.pointer (some ⟨b, 0, none⟩), .int .i64 ep] z9 fun e w' => e = .returned (.int .i64 (n2 : Nat)) ∧ ∃ sv3, RQ w w' b sv sv3 M2 u11 X.2 ∧ (w'.cell? ⟨g, o + i * 3, none⟩ = some (.int .i64 m) ∧ w'.cell? ⟨g, o + i * 3 + 1, none⟩ = some (.int .i64 ep) ∧ w'.cell? ⟨g, o + i * 3 + 2, none⟩ = some (.int .i64 (n : Int)))) := fun z9 sv9 s => by
            have h1 := QD.step s
            refine ⟨unhide HC _ h1.s.fr, ?_⟩
            have := unhide KO z9 sv9 M1 ep h1.s hz2 (by omega)
            rw [← hn2, ← hM2] at this
            refine this.mono ?_
            rintro e w' ⟨e1, sv3, s3⟩
            exact ⟨e1, sv3, h1.step s3, unhide HC _ (h1.step s3).s.fr⟩
          obtain ⟨A2, hA2⟩ : ∃ A2, A2 = X.2.length := ⟨_, rfl⟩
          have hal : A2 ≤ 60 := by omega
          have HA := hide hA2
          have HMX : Hid (A2 + 3 ≤ maxLen ∧ (A2 + 3) * 8 ≤ 140737488355328) := by unfold Hid maxLen; omega
          have d0 : wr.drew.cell? ⟨g, o + i * 3, none⟩ = some (.int .i64 m) := c0
          have d1 : wr.drew.cell? ⟨g, o + i * 3 + 1, none⟩ = some (.int .i64 ep) := c1
          have d2 : wr.drew.cell? ⟨g, o + i * 3 + 2, none⟩ = some (.int .i64 (n : Int)) := c2
          have one3 : ∀ u ∈ [Value.int .i64 (n1 : Int), Value.int .i64 (n2 : Int), Value.int .i64 (n : Int)], u.oneCell' = true := by intro u hu; simp at hu; rcases hu with rfl | rfl | rfl <;> rfl
          have hiI : (i : Int) < (k : Int) := by omega
          clear Q HR hva hza hall hz1 hz2 hz3 hzt hzk q1 q2 e5 hX hM1 lM1 bD QD hn1 hn2 hM2 hA2 HC
          go_upto_region 13 with fail
          go_region_law (first
              | (refine step_append_own rfl (.tmp 53) (.tmp 73) 24 rfl w.heap.size 3 j0 (.int .i64 0) 1 8 Try.underlying24 hj hy0 hy1 hy2 rfl (by decide) u11 A2 (X.2.map (fun m => .int .i64 ((m : Nat) : Int))) (by simp [Act.eval]) (World.ownsRow.alloc hrow _) ⟨zz.heap.size, 0, none⟩ 3 3 [.int .i64 (n1 : Int), .int .i64 (n2 : Int), .int .i64 (n : Int)] (by simp [Act.eval]) rfl (cells_three _ _ _ _ _) one3 (unhide HMX).1 (unhide HMX).2 hbase ?_; intro v' w5 hown' hgrow hat)
              | (go_simp; go_wp2_with (first
                  | (go_at_call 37; with_reducible refine (unhide K1).mono ?_; rintro e_ z9 ⟨rfl, sv9, s9⟩; obtain ⟨⟨f0, f1, f2⟩, k9⟩ := unhide HSt z9 sv9 s9; have K2 := hide k9)
                  | (go_at_call 37; refine (unhide K2).mono ?_; rintro e_ zz ⟨rfl, sv2, hst, f0', f1', f2'⟩; have hrow : zz.ownsRow w.heap.size 3 1 u11 A2 (X.2.map (fun m => .int .i64 ((m : Nat) : Int))) := (by rw [unhide HA]; exact hst.r); have hbase : w.heap.size ≤ (zz.alloc (.cells #[.int .i64 (n1 : Int), .int .i64 (n2 : Int), .int .i64 (n : Int)] 3)).heap.size := (by have := hst.s.fr.size; simp; omega))))
              | fail)
          all_goals
            have R6 : Hid (∃ sv2, RQ w w5 b sv sv2 (adsP P1 (adds.take (i + 1))).1 v' (adsP P1 (adds.take (i + 1))).2) := by
              refine ⟨sv2, ?_⟩
              rw [unhide HNX]
              refine hst.grown ?_ hgrow
              rw [unhide HA] at hown'
              unfold NRow; simpa using hown'
            clear K1 K2 HSt HA HMX d0 d1 d2 one3 hal c0 c1 c2 HNX hown' hgrow hat hst hrow hbase f0 f1 f2 f0' f1' f2' s9
            go_wp2_with fail
            go_roundw
            case rel => exact ⟨i + 1, by omega, by go_num, R6⟩
            case measure => simp only [intOf]; omega
        · have e9 : i = k := by omega
          subst e9
          obtain ⟨sv2, Q⟩ := unhide HR
          rw [(unhide HT).1] at Q
          have K1 := hide (unhide KO wr sv2 P2.1 (M : Int) Q.s (by unfold i64r; omega) (by have := (unhide HP3).2.1; omega))
          obtain ⟨n1, hn1⟩ : ∃ n1 : Nat, n1 = mkN P2.1 ⟨2, (M : Int), 0, 0⟩ := ⟨_, rfl⟩
          rw [← hn1] at K1
          have HP3' : Hid (P3 = (mkL P2.1 ⟨2, (M : Int), 0, 0⟩, P2.2 ++ [n1])) := by unfold Hid; rw [(unhide HP3).1, hn1]; rfl
          obtain ⟨A2, hA2⟩ : ∃ A2, A2 = P2.2.length := ⟨_, rfl⟩
          have hal : A2 ≤ 60 := by have := (unhide HP3).2.2; omega
          have HA := hide hA2
          have Q0 := hide Q
          clear Q HR HL2 hA2 hn1 HP3 hlt
          go_wp2_with fail
          refine (unhide K1).mono ?_
          rintro e w2 ⟨rfl, sv3, s3⟩
          have Q3 := hide ((unhide Q0).step s3)
          have hrow : w2.ownsRow w.heap.size 3 1 u11 A2 (P2.2.map (fun m => .int .i64 ((m : Nat) : Int))) := by rw [unhide HA]; exact (unhide Q3).r
          have hsz := (unhide Q3).s.fr.size
          clear s3 K1 Q0
          go_wp2_with (at_builtin; refine wpList_append_own_at _ rfl (.tmp 75) (.tmp 80) 24 rfl w.heap.size 3 j0 (.int .i64 0) 1 8 Try.underlying24 hj hy0 hy1 hy2 rfl (by decide) _ A2 _ rfl (World.ownsRow.alloc hrow _) ⟨w2.heap.size, 0, none⟩ 1 1 [_] rfl rfl (cell_one_new _ _ _) ?c2 ?c3 ?c4 ?c5 ?nx)
          case c2 => intro u hu; simp at hu; subst hu; rfl
          case c3 => unfold maxLen; omega
          case c4 => omega
          case c5 => simp; omega
          case nx =>
            intro v' w5 hown' hgrow _ hpl
            have D5 : Hid (RQ w w5 b sv sv3 P3.1 v' P3.2) := by
              unfold Hid
              rw [unhide HP3']
              refine (unhide Q3).grown ?_ hgrow
              rw [unhide HA] at hown'
              unfold NRow; simpa using hown'
            obtain ⟨ga, cp, rfl⟩ : ∃ ga cp, v' = .slice ga P3.2.length cp := by
              rcases (unhide D5).r.form with ⟨-, c⟩ | ⟨g, cap, c, -⟩
              · rw [unhide HP3'] at c; simp at c
              · exact ⟨_, cap, c⟩
            clear hown' hgrow hpl hrow Q3 HA hal hsz HP3'
            go_wp2_with fail
            go_loopw [11, 13] (fun lv iv wr => ∃ (j : Nat), j ≤ M ∧ iv = .int .i64 (j : Int) ∧ Hid (∃ sv', RQ w wr b sv sv' (dats P3 (rem.take j)).1 lv (dats P3 (rem.take j)).2)) (fun _ iv _ => (M - intOf iv).toNat)
            case atStart => exact ⟨0, Nat.zero_le _, rfl, sv3, unhide D5⟩
            case round =>
              clear D5
              obtain ⟨j, hj9, rfl, HR⟩ := hrel
              by_cases hlt : j < M
              · obtain ⟨z, hzk⟩ : ∃ z, rem[j]? = some z := ⟨_, List.getElem?_eq_getElem (by rw [← (unhide HNM).2]; exact hlt)⟩
                obtain ⟨sv4, Q⟩ := unhide HR
                obtain ⟨-, hvr, hzr, -⟩ := unhide HV
                have hz1 := hzr z (List.mem_of_getElem? hzk)
                obtain ⟨g, o, rfl, cz⟩ : ∃ g o, a2 = some ⟨g, o, none⟩ ∧ wr.cell? ⟨g, o + j, none⟩ = some (.int .i64 z) := by
                  obtain ⟨a', cap', hv, -, -, hc⟩ := hvr wr Q.s.fr
                  cases hv
                  rcases hc with hc | ⟨g, o, rfl, hc⟩
                  · rw [hc] at hzk; simp at hzk
                  · exact ⟨g, o, rfl, hc j z hzk⟩
                obtain ⟨q1, q2⟩ := unhide HL4 j hj9
                have e5 := dats_snoc P3 rem j z hzk
                obtain ⟨X, hX⟩ : ∃ X, X = dats P3 (rem.take j) := ⟨_, rfl⟩
                rw [← hX] at Q q1 q2 e5
                have K1 := hide (unhide KO wr sv4 X.1 z Q.s hz1 (by omega))
                obtain ⟨n1, hn1⟩ : ∃ n1 : Nat, n1 = mkN X.1 ⟨2, z, 0, 0⟩ := ⟨_, rfl⟩
                rw [← hn1] at K1
                have HNX : Hid (dats P3 (rem.take (j + 1)) = (mkL X.1 ⟨2, z, 0, 0⟩, X.2 ++ [n1])) := by unfold Hid; rw [e5, hn1]; rfl
                obtain ⟨A2, hA2⟩ : ∃ A2, A2 = X.2.length := ⟨_, rfl⟩
                have hal : A2 ≤ 60 := by omega
                have HA := hide hA2
                have Q0 := hide Q
                have hjI : (j : Int) < (M : Int) := by omega
                clear Q HR hvr hzr hz1 hzk q1 q2 e5 hX hn1 hA2
                go_wp2_with fail
                refine (unhide K1).mono ?_
                rintro e w6 ⟨rfl, sv5, s5⟩
                have Q5 := hide ((unhide Q0).step s5)
                have hrow : w6.ownsRow w.heap.size 3 1 u11 A2 (X.2.map (fun m => .int .i64 ((m : Nat) : Int))) := by rw [unhide HA]; exact (unhide Q5).r
                have hsz := (unhide Q5).s.fr.size
                clear s5 K1 Q0 cz
                go_wp2_with (at_builtin; refine wpList_append_own_at _ rfl (.tmp 88) (.tmp 95) 24 rfl w.heap.size 3 j0 (.int .i64 0) 1 8 Try.underlying24 hj hy0 hy1 hy2 rfl (by decide) _ A2 _ rfl (World.ownsRow.alloc hrow _) ⟨w6.heap.size, 0, none⟩ 1 1 [_] rfl rfl (cell_one_new _ _ _) ?c2 ?c3 ?c4 ?c5 ?nx)
                case c2 => intro u hu; simp at hu; subst hu; rfl
                case c3 => unfold maxLen; omega
                case c4 => omega
                case c5 => simp; omega
                case nx =>
                  intro v' w7 hown' hgrow _ hpl
                  have D5 : Hid (∃ sv', RQ w w7 b sv sv' (dats P3 (rem.take (j + 1))).1 v' (dats P3 (rem.take (j + 1))).2) := by
                    refine ⟨sv5, ?_⟩
                    rw [unhide HNX]
                    refine (unhide Q5).grown ?_ hgrow
                    rw [unhide HA] at hown'
                    unfold NRow; simpa using hown'
                  clear hown' hgrow hpl hrow Q5 HA hal hsz HNX
                  go_wp2_with fail
                  go_roundw
                  case rel => exact ⟨j + 1, by omega, by go_num, D5⟩
                  case measure => simp only [intOf]; omega
              · have e9 : j = M := by omega
                subst e9
                obtain ⟨sv4, Q⟩ := unhide HR
                rw [(unhide HT).2] at Q
                have Q1 := hide (unhide KL _ _ _ Q)
                obtain ⟨ga4, cp4, rfl⟩ : ∃ ga cp, u11 = .slice ga P4.2.length cp := by
                  rcases Q.r.form with ⟨c, d⟩ | ⟨g, cap, c, -⟩
                  · exact ⟨none, 0, by rw [c, d]; rfl⟩
                  · exact ⟨_, cap, c⟩
                clear Q HR HL4 HT HV HNM hj hy0 hy1 hy2 KO KL hlt hj9
                go_wp2_with fail
                refine (unhide Q1).mono ?_
                rintro e w6 ⟨rfl, sv6, s6⟩
                have Q2 := hide (unhide KM _ _ s6)
                clear s6 Q1 KM
                go_wp2_with fail
                refine (unhide Q2).mono ?_
                rintro e w7 ⟨rfl, s7⟩
                have S7 := hide s7
                clear s7 Q2
                go_wp2
                go_ret2
                exact ⟨rfl, unhide S7⟩
end Go.Proofs.Ytokdflbajnecpaa.Tn.Ax
