/- TreeFresh, the walk. -/
import Derived.Test.YtjjkhjiiakamaaaDoorTrZ
import Derived.Deep.QuietTactic
import Derived.BigQuiet
namespace Go.Proofs.YtjjkhjiiakamaaaDoor
open Go.RowKit Go.Maps

set_option maxRecDepth 100000 in
set_option maxHeartbeats 8000000 in
theorem TreeFresh_walk (w : World) (v : Value) (T : List Nd) (h : Trd w v T) (hT : Tab w) (mm ee pp li : Int) :
    Calls Tryd.prog 7 #[.agg #[v], .agg #[.int .i64 mm, .int .i64 ee, .int .i64 pp], .int .i64 li] w fun e w' => e = .returned (.bool true) ∧ Below w.heap.size w w' := by
  obtain ⟨a, c, rfl⟩ := h.slice
  obtain ⟨W0, hW0⟩ : ∃ W0, W0 = (bxw w (.slice a T.length c)).alloc (.cells #[.int .i64 mm, .int .i64 ee, .int .i64 pp] 26) := ⟨_, rfl⟩
  have hb0 : Below w.heap.size w W0 := by rw [hW0]; exact (bwA _ _).alloc (by simp) _
  have HB : Hid (∀ W, Below W0.heap.size W0 W → W.cell? ⟨w.heap.size, 0, none⟩ = some (.slice a T.length c) ∧ (W.cell? ⟨w.heap.size + 1, 0, none⟩ = some (.int .i64 mm) ∧ W.cell? ⟨w.heap.size + 1, 1, none⟩ = some (.int .i64 ee) ∧ W.cell? ⟨w.heap.size + 1, 2, none⟩ = some (.int .i64 pp)) ∧ Below w.heap.size w W) := fun W hW => by
    have hbb := bw_tr hb0 hW
    subst hW0
    obtain ⟨h1, h2⟩ := bx2_cellZ hW
    exact ⟨h1, ⟨cell_of_blk h2 rfl, cell_of_blk h2 rfl, cell_of_blk h2 rfl⟩, hbb⟩
  have HH : Hid (∀ W, Below w.heap.size w W → Trd W (.slice a T.length c) T ∧ Tab W) := fun W hW => ⟨h.bw hW, hT.bw hW⟩
  have KE : Hid (∀ W, Below w.heap.size w W → Calls Tryd.prog 11 #[] W fun e w' => e = .returned (.bool true) ∧ Below W.heap.size W w') := fun W hW => alive8 W (hT.bw hW)
  have KT := hide (treeSize_any (h.bw hb0))
  have HW : Hid (W0 = (w.alloc (.cells #[.slice a T.length c] 24)).alloc (.cells #[.int .i64 mm, .int .i64 ee, .int .i64 pp] 26)) := hW0
  have HTL : Hid (0 < T.length → ∃ b o, a = some ⟨b, o, none⟩ ∧ ∀ w', Below w.heap.size w w' → ∀ i, i < T.length → ∃ u, NdC w' b (o + i * 4) (ndAt T i) u ∧ Nums w' u (ndAt T i).un) := h.at.2
  clear h hT hW0
  obtain ⟨N, hN⟩ : ∃ N, N = T.length := ⟨_, rfl⟩
  rw [← hN] at HB HH KT HW ⊢
  have HN := hide hN
  clear hN
  go_enter Tryd.func7, Tryd.ntmps7
  go_wp2_with fail
  rw [← unhide HW]
  refine (unhide KT).mono ?_
  rintro e W1 ⟨n, rfl, hn, b1⟩
  have b2 : Below W0.heap.size W0 (W1.alloc (.cells #[.int .i64 (n : Int)] 3)) := b1.alloc b1.size _
  have KBy := hide (beyond8 W1.heap.size n 1 (W1.alloc (.cells #[.int .i64 (n : Int)] 3)) hn (cell_of_blk (heap_alloc_new W1 _) rfl))
  obtain ⟨W2, hW2⟩ : ∃ W2, W2 = W1.alloc (.cells #[.int .i64 (n : Int)] 3) := ⟨_, rfl⟩
  rw [← hW2] at KBy b2
  have HW2 := hide hW2
  clear hW2 KT HW hn b1
  generalize decide (262144 < n) = by_ at *
  obtain ⟨c0, ⟨d0, d1, d2⟩, hbw⟩ := unhide HB _ b2
  go_wp2_with fail
  rw [← unhide HW2]
  refine (unhide KBy).mono ?_
  rintro e W2 ⟨rfl, rfl⟩
  clear KBy HW2
  cases by_
  rotate_left
  · go_wp2_with fail
    go_ret
    exact ⟨rfl, hbw⟩
  have KR := hide (add_any (unhide HH _ hbw).1 (unhide HH _ hbw).2 mm ee pp)
  obtain ⟨E1, hE1⟩ : ∃ E1, E1 = addE T mm ee pp := ⟨_, rfl⟩
  rw [← hE1] at KR
  have HE1 := hide hE1
  clear hE1
  obtain ⟨AA, hAA⟩ : ∃ AA, AA = addA T mm ee pp := ⟨_, rfl⟩
  rw [← hAA] at KR
  have HAA := hide hAA
  clear hAA
  go_wp2_with fail
  refine (unhide KR).mono ?_
  rintro e W4 ⟨rr, us, rfl, hO, b5⟩
  have b6 := bw_tr b2 b5
  clear KR c0 d0 d1 d2 hbw b2
  obtain ⟨ra, rc, hre⟩ := own_slice hO.row
  subst hre
  obtain ⟨M, hM⟩ : ∃ M, M = (addR T mm ee pp).length := ⟨_, rfl⟩
  rw [← hM] at hO
  rw [← hM]
  have HM := hide hM
  have HO := hide hO
  clear hM hO b5
  obtain ⟨WX, hWX⟩ : ∃ WX, WX = W4.alloc (.cells #[.slice ra M rc] 24) := ⟨_, rfl⟩
  have bX : Below W4.heap.size W4 WX := by rw [hWX]; exact bwA _ _
  have bX0 := bw_tr b6 bX
  have HBX : Hid (∀ W, Below WX.heap.size WX W → W.cell? ⟨W4.heap.size, 0, none⟩ = some (.slice ra M rc) ∧ W.cell? ⟨w.heap.size, 0, none⟩ = some (.slice a N c) ∧ (W.cell? ⟨w.heap.size + 1, 0, none⟩ = some (.int .i64 mm) ∧ W.cell? ⟨w.heap.size + 1, 1, none⟩ = some (.int .i64 ee) ∧ W.cell? ⟨w.heap.size + 1, 2, none⟩ = some (.int .i64 pp)) ∧ Below w.heap.size w W) := fun W hW =>
    ⟨by subst hWX; exact bx_cell hW, unhide HB _ (bw_tr bX0 hW)⟩
  have HO2 : Hid (OTr W2.heap.size WX (.slice ra M rc) (addR T mm ee pp) us) := by have := (unhide HO).bw bX; exact this
  have HWX : Hid (WX = W4.alloc (.cells #[.slice ra M rc] 24)) := hWX
  clear HO bX hWX b6 bX0 HB
  obtain ⟨cX, cT, ⟨d0, d1, d2⟩, hbw⟩ := unhide HBX _ (Below.refl _ _)
  have KE2 := hide (unhide KE _ hbw)
  clear cT d0 d1 d2
  by_cases hE : E1 = 0
  rotate_left
  · have hE1 : (E1 != 0) = true := by simp [hE]
    have hE2 : (E1 == 0) = false := by simp [hE]
    go_upto_if 35 with fail
    rw [← unhide HWX]
    go_wp2_with fail
    refine (unhide KE2).mono ?_
    rintro e W9 ⟨rfl, b9⟩
    go_wp2
    go_ret
    exact ⟨rfl, bw_tr hbw b9⟩
  by_cases hAl : (AA : Int) = li
  · subst hAl hE
    go_upto_if 35 with fail
    rw [← unhide HWX]
    go_wp2_with fail
    refine (unhide KE2).mono ?_
    rintro e W9 ⟨rfl, b9⟩
    go_wp2
    go_ret
    exact ⟨rfl, bw_tr hbw b9⟩
  · have hAl2 : ((AA : Int) == li) = false := by simp [hAl]
    have hrE := (unhide HE1).symm.trans hE
    have hRR : addR T mm ee pp = addT T mm ee pp := by unfold addR; rw [if_pos hrE]
    have hAf : AA = fb T := by rw [unhide HAA]; unfold addA; rw [if_pos hrE]
    have ok := ok_add hrE
    have hmT := (addE_ok hrE).1
    have hf8 : fb T ≤ 8 := Nat.le_trans (fb_le T) (mayB_15 hmT).2
    rw [← hAf] at hf8
    have HON : Hid (∀ i, i < nlv (addT T mm ee pp) → i ≠ AA → cz AA (oth (addT T mm ee pp) i).flatten = 1) := fun i h1 h2 => by rw [hAf] at h2 ⊢; exact fresh_once hrE h1 h2
    rw [hRR] at HO2
    subst hE
    generalize addT T mm ee pp = R at *
    have hmR := ok.mayB
    have hRt := (unhide HO2).trdM hmR
    have KT1 : Hid (∀ W, Below WX.heap.size WX W → Calls Tryd.prog 23 #[.agg #[.slice ra M rc], .int .i64 li, .slice (some ⟨W.heap.size, 0, none⟩) 1 1] (W.alloc (.cells #[.int .i64 (AA : Int)] 3)) fun e w' => ∃ r us, e = .returned (.tuple #[r, .int .i64 (askE R li)]) ∧ RR W.heap.size w' r (tgtR R li [(AA : Int)]) us ∧ Below W.heap.size W w') := fun W hW => by
      have hW2 := hW.alloc hW.size (.cells #[.int .i64 (AA : Int)] 3)
      refine (targets_any (hRt.bw hW2) (one_own W (AA : Int)).nums (unhide HH _ (unhide HBX _ hW2).2.2.2).2 li).mono ?_
      rintro e w' ⟨r, us, h1, h2, h3⟩
      exact ⟨r, us, h1, h2.mono (by simp), bw_tr (bwA _ _) h3⟩
    have KT2 : Hid (∀ W, Below WX.heap.size WX W → Calls Tryd.prog 23 #[.agg #[.slice ra M rc], .int .i64 li, .slice none 0 0] W fun e w' => ∃ r us, e = .returned (.tuple #[r, .int .i64 (askE R li)]) ∧ RR W.heap.size w' r (tgtR R li []) us ∧ Below W.heap.size W w') := fun W hW =>
      targets_any (hRt.bw hW) (fl := []) (Or.inl ⟨rfl, none, 0, rfl, fun _ => rfl⟩) (unhide HH _ (unhide HBX _ hW).2.2.2).2 li
    have HOM : Hid (∀ i, i < nlv R → (oth R i).length ≤ 3 ∧ ∀ l ∈ oth R i, l.length ≤ 72) := fun i hi => ⟨(oth_mem ok hi).1, fun l hl => ((oth_mem ok hi).2 l hl).1⟩
    have HASK : Hid (askE R li = 0 → ∃ i : Nat, li = i ∧ i < nlv R) := fun h => by
      obtain ⟨i, h1, h2, _⟩ := askE_ok hmR h
      exact ⟨i, h1, h2⟩
    clear HTL HE1 HH HO2 hRt ok hmR hmT hRR hrE hb0 HAA hAf HM HN
    obtain ⟨E2, hE2⟩ : ∃ E2, E2 = askE R li := ⟨_, rfl⟩
    obtain ⟨L1, hL1⟩ : ∃ L1, L1 = tgtR R li [(AA : Int)] := ⟨_, rfl⟩
    obtain ⟨L2, hL2⟩ : ∃ L2, L2 = tgtR R li [] := ⟨_, rfl⟩
    rw [← hE2, ← hL1] at KT1
    rw [← hE2, ← hL2] at KT2
    have HE2 := hide (And.intro hE2 (And.intro hL1 hL2))
    clear hE2 hL1 hL2
    have K1 := hide (unhide KT1 _ (Below.refl _ _))
    go_upto_if 35 with fail
    rw [← unhide HWX]
    go_wp2_with fail
    refine (unhide K1).mono ?_
    rintro e W5 ⟨lv, us1, rfl, hR1, b5⟩
    clear K1 KT1 cX
    obtain ⟨cX, -, -, -⟩ := unhide HBX _ b5
    have K2 := hide (unhide KT2 _ b5)
    go_wp2_with fail
    refine (unhide K2).mono ?_
    rintro e W6 ⟨mv, us2, rfl, hR2, b6⟩
    have belX := bw_tr b5 b6
    have hR1 := hR1.bw b6
    clear K2 KT2 cX hbw KE2
    obtain ⟨-, -, -, hbw⟩ := unhide HBX _ belX
    have KE3 : Hid (∀ W, Below W6.heap.size W6 W → Calls Tryd.prog 11 #[] W fun e w' => e = .returned (.bool true) ∧ Below w.heap.size w w') := fun W hW => (unhide KE _ (bw_tr hbw hW)).mono (fun e w' h => ⟨h.1, bw_tr (bw_tr hbw hW) h.2⟩)
    by_cases hE : E2 = 0
    rotate_left
    · have hE1 : (E2 != 0) = true := by simp [hE]
      have hE4 : (E2 == 0) = false := by simp [hE]
      have KE2 := hide (unhide KE3 _ (Below.refl _ _))
      clear hR1 hR2
      go_wp2_with fail
      refine (unhide KE2).mono ?_
      rintro e W9 ⟨rfl, b9⟩
      go_wp2
      go_ret
      exact ⟨rfl, b9⟩
    · obtain ⟨h1, h2, h3⟩ := unhide HE2
      obtain ⟨i, hie, hil⟩ := unhide HASK (h1.symm.trans hE)
      have hc1 := unhide HON i hil (fun hc => hAl (by rw [hie, hc]))
      obtain ⟨o1, o2⟩ := unhide HOM i hil
      have e2 : L2 = oth R i := by rw [h3]; unfold tgtR; rw [if_pos (h1.symm.trans hE), hie, Int.toNat_natCast, tgt_nil]
      have e1 : L1 = (oth R i).map fun l => l.filter (keepF [(AA : Int)]) := by rw [h2]; unfold tgtR; rw [if_pos (h1.symm.trans hE), hie, Int.toNat_natCast]; rfl
      subst hE
      rw [← e2] at hc1 o1 o2 e1
      have HL1 := hide e1
      have HC1 := hide hc1
      have HO2 := hide o2
      obtain ⟨Mn, hMn⟩ : ∃ Mn, Mn = L2.length := ⟨_, rfl⟩
      have hM3 : (Mn : Int) ≤ 3 := by omega
      have hr1 := hR1.row
      have hr2 := hR2.row
      have el : L1.length = Mn := by rw [e1, List.length_map, hMn]
      obtain ⟨a1, c1, hv1⟩ := own_slice hr1
      obtain ⟨a2, c2, hv2⟩ := own_slice hr2
      rw [el] at hv1
      rw [← hMn] at hv2
      subst hv1 hv2
      have HR1 := hide hR1
      have HR2 := hide hR2
      have HMn := hide (And.intro el hMn)
      clear h1 h2 h3 hc1 o1 o2 e1 e2 HE2 HASK HON HOM hr1 hr2 hR1 hR2 el hMn hie hil hAl hAl2
      have qz : (AA : Int) ≤ 8 := by omega
      have q2 : (0 : Int) ≤ 2 * (AA : Int) := by omega
      go_wp2_with fail
      go_loopw [14, 15, 16, 17] (fun ov iv _ _ wr => ∃ I C : Nat, iv = .int .i64 (I : Int) ∧ ov = .int .i64 (C : Int) ∧ I ≤ Mn ∧ C ≤ 72 * I ∧ Hid (C = cz AA (L2.take I).flatten) ∧ Below W6.heap.size W6 wr) (fun _ iv _ _ _ => (Mn - (intOf iv)).toNat)
      case atStart => exact ⟨0, 0, rfl, rfl, by omega, by omega, rfl, Below.refl _ _⟩
      case round =>
        obtain ⟨I, C, rfl, rfl, hI, hC, hHC, hbel⟩ := hrel
        by_cases hlt : I < Mn
        · have q1 : (I : Int) < (Mn : Int) := by omega
          have q0 : (0 : Int) ≤ (I : Int) := by omega
          have hR1 := (unhide HR1).bw hbel
          have hR2 := (unhide HR2).bw hbel
          obtain ⟨el1, el2⟩ := unhide HMn
          obtain ⟨m, hm⟩ : ∃ m, L2[I]? = some m := ⟨_, List.getElem?_eq_getElem (by omega)⟩
          have hl : L1[I]? = some (m.filter (keepF [(AA : Int)])) := by rw [unhide HL1, List.getElem?_map, hm]; rfl
          obtain ⟨u1, hu1⟩ : ∃ u, us1[I]? = some u := ⟨_, List.getElem?_eq_getElem (by rw [hR1.ul]; omega)⟩
          obtain ⟨u2, hu2⟩ : ∃ u, us2[I]? = some u := ⟨_, List.getElem?_eq_getElem (by rw [hR2.ul]; omega)⟩
          have hi1 := hR1.un I _ u1 hl hu1
          have hi2 := hR2.un I _ u2 hm hu2
          have hr1 := hR1.row
          have hr2 := hR2.row
          rw [el1] at hr1
          rw [← el2] at hr2
          obtain ⟨g1, cap1, hoe1, -, -, -⟩ := own_open hr1 (by omega)
          obtain ⟨g2, cap2, hoe2, -, -, -⟩ := own_open hr2 (by omega)
          cases hoe1
          cases hoe2
          have k1 : wr.cell? ⟨g1, I, none⟩ = some u1 := own_cell hr1 rfl hu1
          have k2 : wr.cell? ⟨g2, I, none⟩ = some u2 := own_cell hr2 rfl hu2
          have hm72 := unhide HO2 m (List.mem_of_getElem? hm)
          have hft : Hid ((L2.take (I + 1)).flatten = (L2.take I).flatten ++ m) := by unfold Hid; rw [List.take_add_one, hm]; simp
          obtain ⟨l, hle⟩ : ∃ l, l = m.filter (keepF [(AA : Int)]) := ⟨_, rfl⟩
          rw [← hle] at hi1
          have HLE := hide hle
          have HKS : Hid (∀ n z, m[n]? = some z → _) := fun n z h => keep_step (f := AA) h
          rw [← hle] at HKS
          obtain ⟨s1, t1, hs1⟩ := own_slice hi1
          obtain ⟨s2, t2, hs2⟩ := own_slice hi2
          subst hs1 hs2
          have HN1 : Hid (∀ W, Below wr.heap.size wr W → W.cell? ⟨g1, I, none⟩ = some (.slice s1 l.length t1) ∧ ∀ k z, l[k]? = some z → ∃ g o, s1 = some ⟨g, o, none⟩ ∧ W.cell? ⟨g, o + k, none⟩ = some (.int .i64 z)) := fun W hW => by
            refine ⟨cell_keep k1 (hW.block _ (lt_of_cell k1)), fun k z hk => ?_⟩
            obtain ⟨g, o, cap, e, hc⟩ := (hi1.nums.bw hW).open (by have := (List.getElem?_eq_some_iff.1 hk).1; omega)
            cases e
            exact ⟨g, o, rfl, hc k z hk⟩
          have HN2 : Hid (∀ W, Below wr.heap.size wr W → W.cell? ⟨g2, I, none⟩ = some (.slice s2 m.length t2) ∧ ∀ k z, m[k]? = some z → ∃ g o, s2 = some ⟨g, o, none⟩ ∧ W.cell? ⟨g, o + k, none⟩ = some (.int .i64 z)) := fun W hW => by
            refine ⟨cell_keep k2 (hW.block _ (lt_of_cell k2)), fun k z hk => ?_⟩
            obtain ⟨g, o, cap, e, hc⟩ := (hi2.nums.bw hW).open (by have := (List.getElem?_eq_some_iff.1 hk).1; omega)
            cases e
            exact ⟨g, o, rfl, hc k z hk⟩
          obtain ⟨LM, hLM⟩ : ∃ LM, LM = m.length := ⟨_, rfl⟩
          obtain ⟨LL, hLL⟩ : ∃ LL, LL = l.length := ⟨_, rfl⟩
          rw [← hLL] at HN1
          rw [← hLM] at HN2
          have hLM72 : (LM : Int) ≤ 72 := by omega
          have hLL72 : (LL : Int) ≤ 72 := by have := List.length_filter_le (keepF [(AA : Int)]) m; rw [← hle] at this; omega
          have HLN := hide (And.intro hLM hLL)
          have hC3 : (C : Int) ≤ 216 := by omega
          clear hR1 hR2 el1 el2 hm hl hu1 hu2 hi1 hi2 hr1 hr2 k1 k2 hle hLM hLL HR1 HR2 hm72
          generalize wr = WR at *
          go_wp2_with fail
          go_loopw [14, 16, 17] (fun ov kv nv wq => ∃ n k D : Nat, nv = .int .i64 (n : Int) ∧ kv = .int .i64 (k : Int) ∧ ov = .int .i64 (D : Int) ∧ n ≤ LM ∧ k ≤ n ∧ D ≤ C + n ∧ Hid (k = ((m.take n).filter (keepF [(AA : Int)])).length ∧ D = C + cz AA (m.take n)) ∧ Below WR.heap.size WR wq) (fun _ _ nv _ => (LM - (intOf nv)).toNat)
          case atStart => exact ⟨0, 0, C, rfl, rfl, rfl, by omega, by omega, by omega, ⟨by simp, by simp [cz]⟩, Below.refl _ _⟩
          case round =>
            obtain ⟨n, k, D, rfl, rfl, rfl, hnL, hkn, hDn, hH, hb2⟩ := hrel
            obtain ⟨kk1, kl1⟩ := unhide HN1 _ hb2
            obtain ⟨kk2, kl2⟩ := unhide HN2 _ hb2
            have hk72 : (k : Int) ≤ 72 := by omega
            have hD300 : (D : Int) ≤ 300 := by omega
            by_cases hlt2 : n < LM
            · have r1 : (n : Int) < (LM : Int) := by omega
              have r0 : (0 : Int) ≤ (n : Int) := by omega
              obtain ⟨z, hz⟩ : ∃ z, m[n]? = some z := ⟨_, List.getElem?_eq_getElem (by have := (unhide HLN).1; omega)⟩
              obtain ⟨st1, st2⟩ := unhide HKS n z hz
              obtain ⟨gz, oz, hs2, cz2⟩ := kl2 n z hz
              subst hs2
              by_cases hzz : z = 2 * (AA : Int)
              · have hz2 : (z == 2 * (AA : Int)) = true := by simp [hzz]
                have st := st1 hzz
                have HX : Hid (k = ((m.take (n + 1)).filter (keepF [(AA : Int)])).length ∧ D + 1 = C + cz AA (m.take (n + 1))) := by
                  obtain ⟨x1, x2⟩ := unhide hH
                  exact ⟨by rw [st.2]; exact x1, by rw [st.1]; omega⟩
                clear st st1 st2 hz kl1 kl2 hzz hH
                go_wp2_with fail
                go_roundw
                case rel => first | exact ⟨n + 1, k, D + 1, by go_num, rfl, by go_num, by omega, by omega, by omega, HX, hb2⟩ | ((repeat apply Exists.intro); exact ⟨⟨n + 1, k, D + 1, by go_num, rfl, by go_num, by omega, by omega, by omega, HX, hb2⟩, rfl⟩)
                case measure => simp [intOf]; omega
              · have hz2 : (z == 2 * (AA : Int)) = false := by simp [hzz]
                obtain ⟨x1, x2⟩ := unhide hH
                obtain ⟨y1, y2, y3⟩ := st2 hzz
                rw [← x1] at y3
                obtain ⟨gy, oy, hs1, cy⟩ := kl1 k z y3
                have hkL : k < LL := by have := (List.getElem?_eq_some_iff.1 y3).1; have := (unhide HLN).2; omega
                subst hs1
                have HX : Hid (k + 1 = ((m.take (n + 1)).filter (keepF [(AA : Int)])).length ∧ D = C + cz AA (m.take (n + 1))) := ⟨by rw [y2, ← x1], by rw [y1]; exact x2⟩
                have t1' : (k : Int) < (LL : Int) := by omega
                have t0 : (0 : Int) ≤ (k : Int) := by omega
                have t2' : decide ((LL : Int) ≤ (k : Int)) = false := decide_eq_false (by omega)
                have t3 : decide (LL ≤ k) = false := decide_eq_false (by omega)
                have t4 : (z != z) = false := by simp
                clear st1 st2 hz kl1 kl2 hzz hH x1 x2 y1 y2 y3
                go_upto_region 24 with fail
                go_quiet (fail)
                all_goals
                  go_wp2_with fail
                  go_roundw
                  case rel => first | exact ⟨n + 1, k + 1, D, by go_num, by go_num, rfl, by omega, by omega, by omega, HX, below_drewN hb2 _⟩ | ((repeat apply Exists.intro); exact ⟨⟨n + 1, k + 1, D, by go_num, by go_num, rfl, by omega, by omega, by omega, HX, below_drewN hb2 _⟩, rfl⟩)
                  case measure => simp [intOf]; omega
            · obtain rfl : LM = n := by omega
              obtain ⟨x1, x2⟩ := unhide hH
              have ek : k = LL := by
                rw [x1, (unhide HLN).2, unhide HLE, (unhide HLN).1, List.take_length]
              have HX : Hid (D = cz AA (L2.take (I + 1)).flatten) := by
                unfold Hid; rw [unhide hft, cz_app, x2, (unhide HLN).1, List.take_length, ← unhide hHC]
              subst ek
              have hbE := bw_tr hbel hb2
              clear x1 x2 kl1 kl2 hH
              go_wp2_with fail
              go_roundw
              case rel => first | exact ⟨I + 1, D, by go_num, rfl, by omega, by omega, HX, hbE⟩ | ((repeat apply Exists.intro); exact ⟨⟨I + 1, D, by go_num, rfl, by omega, by omega, HX, hbE⟩, rfl⟩)
              case measure => simp [intOf]; omega
        · obtain rfl : Mn = I := by omega
          have hC1 : C = 1 := by
            have := unhide hHC
            rw [(unhide HMn).2, List.take_length] at this
            rw [this]; exact unhide HC1
          subst hC1
          have KE2 := hide (unhide KE3 _ hbel)
          go_wp2_with fail
          refine (unhide KE2).mono ?_
          rintro e W9 ⟨rfl, b9⟩
          go_wp2
          go_ret
          exact ⟨rfl, b9⟩
end Go.Proofs.YtjjkhjiiakamaaaDoor
