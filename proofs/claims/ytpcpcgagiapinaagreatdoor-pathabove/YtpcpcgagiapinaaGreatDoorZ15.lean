/- Texts joined: TeF TeG. -/
import Derived.Test.YtpcpcgagiapinaaGreatDoorZ14
import Derived.Test.YtpcpcgagiapinaaGreatDoorZ03
import Derived.Test.YtpcpcgagiapinaaGreatDoorZ09
/- The contract of the document's Add, where it is not refused. -/
namespace Go.Proofs.YtpcpcgagiapinaaGreatDoor
open Go.RowKit Go.Maps
set_option maxRecDepth 100000 in
set_option maxHeartbeats 8000000 in
theorem radd_ok {w : World} {v : Value} {T : List Nd} (h : Trd w v T) (mm ee pp : Int) (hE : addE T mm ee pp = 0) :
    Calls Tryz.prog 60 #[.agg #[v], .agg #[.int .i64 mm, .int .i64 ee, .int .i64 pp]] w fun e w' => ∃ r us, e = .returned (.tuple #[.agg #[r], .int .i64 (fb T : Nat), .int .i64 0]) ∧ OTr w.heap.size w' r (addT T mm ee pp) us ∧ Below w.heap.size w w' := by
  obtain ⟨j0, hj0, hz0, hz1, hz2⟩ := info_parts infoNode
  have q : mayB T = true ∧ 0 ≤ mm ∧ 0 ≤ ee ∧ 1 ≤ pp ∧ fnd T mm < 0 ∧ fb T ≠ 8 := by
    unfold addE at hE
    split at hE
    · cases hE
    · rename_i hh
      simp only [not_or, Bool.not_eq_false] at hh
      split at hE
      · cases hE
      · split at hE
        · cases hE
        · exact ⟨hh.1, by omega, by omega, by omega, by omega, by omega⟩
  obtain ⟨qm, q1, q2, q3, q4, q5⟩ := q
  obtain ⟨r1, r2, r3⟩ := wRoom_sizes qm q5
  obtain ⟨d1, d2, d3, d4, d5, d6⟩ := up_of r1 r2
  have d7 := up_len r1 r2
  obtain ⟨a, c, rfl⟩ := h.slice
  obtain ⟨W0, hW0⟩ : ∃ W0, W0 = ((bxw w (.slice a T.length c)).alloc (.cells #[.int .i64 mm, .int .i64 ee, .int .i64 pp] 121)).alloc (.cells #[.slice none 0 0] 44) := ⟨_, rfl⟩
  have hb0 : Below w.heap.size w W0 := by rw [hW0]; exact ((bwA _ _).alloc (by simp) _).alloc (by simp; omega) _
  have hs0 : W0.heap.size = w.heap.size + 3 := by rw [hW0]; simp
  have HB : Hid (∀ W, Below W0.heap.size W0 W → W.cell? ⟨w.heap.size, 0, none⟩ = some (.slice a T.length c) ∧ (W.cell? ⟨w.heap.size + 1, 0, none⟩ = some (.int .i64 mm) ∧ W.cell? ⟨w.heap.size + 1, 1, none⟩ = some (.int .i64 ee) ∧ W.cell? ⟨w.heap.size + 1, 2, none⟩ = some (.int .i64 pp)) ∧ (W.cell? ⟨w.heap.size + 1 + 1, 0, none⟩ = some (.slice none 0 0) ∧ W.frozen? ⟨w.heap.size + 1 + 1, 0, none⟩ = false) ∧ Below w.heap.size w W) := fun W hW => by
    have e0 : W.heap[w.heap.size]? = some (.cells #[.slice a T.length c] 44 (0, 0)) := by
      rw [hW.block _ (by omega), hW0, Below.heap_alloc _ _ _ (by simp; omega), Below.heap_alloc _ _ _ (by simp)]; exact heap_alloc_new _ _
    have e1 : W.heap[w.heap.size + 1]? = some (.cells #[.int .i64 mm, .int .i64 ee, .int .i64 pp] 121 (0, 0)) := by
      rw [hW.block _ (by omega), hW0, Below.heap_alloc _ _ _ (by simp)]
      have := heap_alloc_new (bxw w (.slice a T.length c)) (.cells #[.int .i64 mm, .int .i64 ee, .int .i64 pp] 121)
      simpa using this
    have e2 : W.heap[w.heap.size + 1 + 1]? = some (.cells #[.slice none 0 0] 44 (0, 0)) := by
      rw [hW.block _ (by omega), hW0]
      have := heap_alloc_new ((bxw w (.slice a T.length c)).alloc (.cells #[.int .i64 mm, .int .i64 ee, .int .i64 pp] 121)) (.cells #[.slice none 0 0] 44)
      simpa using this
    exact ⟨cell_of_blk e0 rfl, ⟨cell_of_blk e1 rfl, cell_of_blk e1 rfl, cell_of_blk e1 rfl⟩, ⟨cell_of_blk e2 rfl, by simp [World.frozen?, e2]⟩, bw_tr hb0 hW⟩
  have KM : Hid (∀ W, Below w.heap.size w W → Calls Tryz.prog 54 #[.agg #[.slice a T.length c]] W fun e w' => e = .returned (.int .i64 0) ∧ Below W.heap.size W w') := fun W hW => by
    have := rcheck_any (h.bw hW); rw [qm] at this; exact this
  have KF : Hid (∀ W, Below w.heap.size w W → Calls Tryz.prog 102 #[.agg #[.slice a T.length c], .int .i64 mm] W fun e w' => e = .returned (.int .i64 (fnd T mm)) ∧ Below W.heap.size W w') := fun W hW => by
    have := rfind_any (h.bw hW) mm; rw [qm] at this; exact this
  have KT : Hid (∀ W, Below w.heap.size w W → Calls Tryz.prog 103 #[.agg #[.slice a T.length c]] W fun e w' => ∃ r us, e = .returned (.agg #[r]) ∧ OTr W.heap.size w' r T us ∧ Below W.heap.size W w') := fun W hW => rtwin_any (h.bw hW) (mayB_15 qm).1 (fun x hx => by have := un_len qm x hx; omega)
  have KB : Hid (∀ W, Below w.heap.size w W → Calls Tryz.prog 104 #[.agg #[.slice a T.length c]] W fun e w' => e = .returned (.int .i64 (if fb T < nlv T then (fb T : Nat) else -1)) ∧ Below W.heap.size W w') := fun W hW => rfree_any (h.bw hW) (mayB_15 qm).1
  have hrl : rlv T.length = nlv T := by
    rcases mayB_wd qm with e | hw
    · rw [e]; rfl
    · obtain ⟨g1, g2, -⟩ := hw.facts
      have := rlv_of g1
      rw [← g2] at this
      exact this
  have KL : Hid (∀ W, Calls Tryz.prog 97 #[.agg #[.slice a T.length c]] W fun e w' => e = .returned (.int .i64 (nlv T : Nat)) ∧ Below W.heap.size W w') := fun W => by have := rleaves_any a T.length c W h.len; rw [hrl] at this; exact this
  obtain ⟨n, hn⟩ : ∃ n, n = wRoom (nlv T) (fb T) := ⟨_, rfl⟩
  rw [← hn] at r1 r2 d1 d2 d3 d4 d5 d6 d7
  have HW : Hid (W0 = ((w.alloc (.cells #[.slice a T.length c] 44)).alloc (.cells #[.int .i64 mm, .int .i64 ee, .int .i64 pp] 121)).alloc (.cells #[.slice none 0 0] 44)) := hW0
  have n1 : decide (mm < 0) = false := decide_eq_false (by omega)
  have n2 : decide (ee < 0) = false := decide_eq_false (by omega)
  have n3 : decide (pp < 1) = false := decide_eq_false (by omega)
  have n4 : decide (0 ≤ fnd T mm) = false := decide_eq_false (by omega)
  have HADD : Hid (addT T mm ee pp = onAll (addU (fb T : Nat)) (upN n (fb T)) ((fit (2 * n - 1) T).set (2 * fb T) ⟨pp, mm, ee, []⟩)) := by unfold Hid addT; rw [← hn]
  have HUN : Hid (∀ x, ((fb T : Nat) : Int) ∉ (ndAt T x).un ∧ (ndAt T x).un.length ≤ 8) := fun x => ⟨fb_notin qm x, (un_ok qm x).2⟩
  have HR := hide (And.intro r1 (And.intro r2 (And.intro d1 (And.intro d4 (And.intro d5 d7)))))
  have HS0 := hide hs0
  have HNL : Hid ((nlv T = 0 ∧ T.length = 0 ∨ nlv T ∈ sizes ∧ T.length = 2 * nlv T - 1) ∧ fb T ≤ nlv T ∧ fb T ≠ 8 ∧ n = wRoom (nlv T) (fb T)) := by
    refine ⟨?_, fb_le T, q5, hn⟩
    rcases mayB_wd qm with e | hw
    · left; rw [e]; exact ⟨rfl, rfl⟩
    · right; exact ⟨hw.facts.1, hw.facts.2.1⟩
  clear hE q1 q2 q3 q4 q5 r1 r2 r3 d1 d2 d3 d4 d5 d6 d7 hW0 h qm hn hs0 hrl
  generalize fnd T mm = fm at *
  generalize hnl : nlv T = nl at *
  clear hnl
  generalize hfb : fb T = i at *
  clear hfb
  obtain ⟨N, hN⟩ : ∃ N, N = T.length := ⟨_, rfl⟩
  rw [← hN] at HB KM KF KT KB KL HW HNL ⊢
  have HN := hide hN
  clear hN
  go_enter Tryz.func60, Tryz.ntmps60
  go_wp2_with fail
  rw [← unhide HW]
  refine (unhide KM _ hb0).mono ?_
  rintro e W1 ⟨rfl, b1⟩
  obtain ⟨c0, ⟨c1, c2, c3⟩, -, hw1⟩ := unhide HB _ b1
  clear KM HW
  go_wp2_with fail
  refine (unhide KF _ hw1).mono ?_
  rintro e W2 ⟨rfl, b2⟩
  have b3 := bw_tr b1 b2
  clear c0 c1 c2 c3 KF b2
  obtain ⟨c0, -, -, hw3⟩ := unhide HB _ b3
  go_wp2_with fail
  refine (unhide KT _ hw3).mono ?_
  rintro e W3 ⟨rr, us0, rfl, hO0, b4⟩
  have b5 := bw_tr b3 b4
  obtain ⟨ra0, rc0, hre0⟩ := own_slice hO0.row
  rw [← unhide HN] at hre0
  subst hre0
  have hDV0 : Hid (DV W0 (W3.alloc (.cells #[.slice ra0 N rc0] 44)) W3.heap.size (.slice ra0 N rc0) T us0) := DV.new b5 (hO0.mono b3.size)
  obtain ⟨WX, hWX⟩ : ∃ WX, WX = W3.alloc (.cells #[.slice ra0 N rc0] 44) := ⟨_, rfl⟩
  have HWX := hide hWX
  rw [← hWX] at hDV0
  obtain ⟨nb, hnb⟩ : ∃ nb, nb = W3.heap.size := ⟨_, rfl⟩
  clear c0 KT b4 b3 b1 hw1 hw3 hO0 hWX n1 n2 n3 n4 b5
  obtain ⟨c0, -, -, hwX⟩ := unhide HB _ (unhide hDV0).bel
  go_upto_region 6 with fail
  rw [← unhide HWX]
  rw [← hnb] at hDV0 ⊢
  clear HWX hnb
  go_wp2_with fail
  refine (unhide KB _ hwX).mono ?_
  rintro e W6 ⟨rfl, b6⟩
  have hDV := hide ((unhide hDV0).bw b6)
  clear hDV0 c0 hwX b6 KB
  obtain ⟨mn, hmn⟩ : ∃ mn, mn = 2 * n - 1 := ⟨_, rfl⟩
  have HMN := hide hmn
  rw [← hmn] at HADD
  clear hmn
  obtain ⟨F, hF⟩ : ∃ F, F = fit mn T := ⟨_, rfl⟩
  rw [← hF] at HADD
  have HFF := hide hF
  clear hF
  by_cases hfree : i < nl
  · rw [if_pos hfree]
    have i0 : decide ((i : Int) < 0) = false := decide_eq_false (by omega)
    have i1 : ¬ ((i : Int) < 0) := by omega
    have hTpos : 0 < T.length := by
      have hN := unhide HN
      rcases (unhide HNL).1 with q | q
      · omega
      · have q1 := q.1
        simp [sizes] at q1
        omega
    obtain ⟨g, mc, hge, hDXT⟩ := (unhide hDV).dx hTpos
    rw [← unhide HN] at hge hDXT
    cases hge
    generalize rc0 = mc at *
    have hmnN : mn = N := by
      have q := unhide HNL
      have hw : wRoom nl i = nl := by unfold wRoom; rw [if_pos hfree]
      have h1 := unhide HMN
      rw [q.2.2.2, hw] at h1
      rcases q.1 with q1 | q1
      · omega
      · omega
    have hFT : F = T := by rw [unhide HFF, hmnN]; exact fit_self (unhide HN).symm
    have hDX : Hid (DX W0 W6 nb g mn mc F us0) := by rw [hmnN, hFT]; exact hDXT
    subst hmnN
    clear hDV hDXT hFT hTpos
    generalize us0 = us at *
    obtain ⟨wc, hwc⟩ : ∃ wc, wc = W6 := ⟨_, rfl⟩
    rw [← hwc] at hDX ⊢
    clear hwc KL
    go_upto_region 14 with fail
    -- the node of who comes in
    obtain ⟨r1, r2, d1, d4, d5, d7⟩ := unhide HR
    obtain ⟨x2, hx2⟩ : ∃ x2, x2 = 2 * i := ⟨_, rfl⟩
    rw [← hx2] at d1 HADD
    have hFl : F.length = mn := by rw [unhide HFF, fit_len]
    have hmn := unhide HMN
    have hx2l : x2 < F.length := by omega
    obtain ⟨u2, hu2, ⟨e0, e1, e2, e3⟩, hfz⟩ := (unhide hDX).at hx2l
    have f0 := hfz (x2 * 4); have f1 := hfz (x2 * 4 + 1); have f2 := hfz (x2 * 4 + 2); have f3 := hfz (x2 * 4 + 3)
    have cN := (unhide hDX).cell
    obtain ⟨-, ⟨c1, c2, c3⟩, -, -⟩ := unhide HB _ (unhide hDX).bel
    have hmn15 : mn ≤ 15 := by simp [sizes] at r1; omega
    have p1 : 2 * (i : Int) = (x2 : Int) := by omega
    have p2 : (x2 : Int) < (mn : Int) := by omega
    have p3 : (0 : Int) ≤ (x2 : Int) := by omega
    have p4 : (mn : Int) ≤ 15 := by omega
    have hDX4 : Hid (DX W0 ((((wc.setCell ⟨g, x2 * 4, none⟩ (.int .i64 pp)).setCell ⟨g, x2 * 4 + 1, none⟩ (.int .i64 mm)).setCell ⟨g, x2 * 4 + 2, none⟩ (.int .i64 ee)).setCell ⟨g, x2 * 4 + 3, none⟩ (.slice none 0 0)) nb g mn mc (F.set x2 ⟨pp, mm, ee, []⟩) (us.set x2 (.slice none 0 0))) := (unhide hDX).set4 hx2l ⟨pp, mm, ee, []⟩ rfl
    obtain ⟨T1, hT1⟩ : ∃ T1, T1 = F.set x2 ⟨pp, mm, ee, []⟩ := ⟨_, rfl⟩
    rw [← hT1] at hDX4 HADD
    have hT1l : T1.length = mn := by rw [hT1, List.length_set, hFl]
    have HU1 : Hid (∀ x, x ∈ upN n i → ((i : Nat) : Int) ∉ (ndAt T1 x).un ∧ (ndAt T1 x).un.length ≤ 8) := fun x hx => by
      have := d5 x hx
      rw [hT1, ndAt_set, if_neg (by omega), unhide HFF, ndAt_fit (by omega)]; exact unhide HUN x
    have HN1 := hide (And.intro hT1l (And.intro r1 (And.intro r2 (And.intro d4 d5))))
    have HD1 := hide d1
    have HMN2 : Hid (2 * n - 1 = mn) := hmn.symm
    have HRL : Hid (rlv mn = n) := by unfold Hid; rw [hmn]; exact rlv_of r1
    clear hDX hT1 hT1l r1 r2 d1 d4 d5 hFl hmn hx2l HR HFF HMN hu2 hfz hx2
    obtain ⟨U, hU⟩ : ∃ U, U = upN n i := ⟨_, rfl⟩
    rw [← hU] at HADD HU1 HN1 HD1 d7
    clear hU
    go_upto_region 15 with fail
    generalize ((((wc.setCell ⟨g, x2 * 4, none⟩ (.int .i64 pp)).setCell ⟨g, x2 * 4 + 1, none⟩ (.int .i64 mm)).setCell ⟨g, x2 * 4 + 2, none⟩ (.int .i64 ee)).setCell ⟨g, x2 * 4 + 3, none⟩ (.slice none 0 0)) = W4 at *
    generalize us.set x2 (.slice none 0 0) = us4 at *
    have cN4 := (unhide hDX4).cell
    have KLv := hide (rleaves_any (some ⟨g, 0, none⟩) mn mc W4 (by omega))
    rw [unhide HRL] at KLv
    clear e0 e1 e2 e3 f0 f1 f2 f3 cN c1 c2 c3
    obtain ⟨M, hM⟩ : ∃ M, M = U.length := ⟨_, rfl⟩
    have HM := hide hM
    rw [← hM] at d7
    clear hM
    go_wp2_with fail
    refine (unhide KLv).mono ?_
    rintro e W4b ⟨rfl, y4⟩
    have hDX4b := hide ((unhide hDX4).bw y4)
    have KD := hide (rdirect_any ((x2 : Nat) : Int) ((n : Nat) : Int) W4b)
    rw [unhide HD1] at KD
    clear KLv cN4 hDX4 y4
    go_wp2_with fail
    refine (unhide KD).mono ?_
    rintro e W5 ⟨rv, rfl, hrv, y5⟩
    have hDX5 := hide ((unhide hDX4b).bw y5)
    obtain ⟨ra, rc, hre⟩ := own_slice hrv
    rw [List.length_map, ← unhide HM] at hre
    subst hre
    have HRV : Hid (Ints W4b.heap.size W5 (.slice ra M rc) (U.map (fun (x : Nat) => (x : Int)))) := hrv
    clear KD hDX4b hrv y5 p2 p3
    go_wp2_with fail
    go_loopw [11] (fun iv wr => ∃ (j : Nat) (us' : List Value), iv = .int .i64 (j : Int) ∧ j ≤ M ∧ Hid (DX W0 wr nb g mn mc (onAll (addU (i : Nat)) (U.take j) T1) us') ∧ Hid (Ints W4b.heap.size wr (.slice ra M rc) (U.map (fun (x : Nat) => (x : Int))))) (fun iv _ => (M - (intOf iv)).toNat)
    case atStart => exact ⟨0, us4, rfl, by omega, by rw [List.take_zero, onAll_nil]; exact hDX5, HRV⟩
    case round =>
      clear HRV hDX5
      obtain ⟨j, us', rfl, hjM, hDX, hRV⟩ := hrel
      by_cases hlt : j < M
      · obtain ⟨x, hx⟩ : ∃ x, U[j]? = some x := ⟨_, List.getElem?_eq_getElem (by have := unhide HM; omega)⟩
        have hxm : x ∈ U := List.mem_of_getElem? hx
        obtain ⟨gu, ou, cu, hue, hcu⟩ := (unhide hRV).nums.open (by simp; have := unhide HM; omega)
        rw [List.length_map, ← unhide HM] at hue
        cases hue
        have k1 : wr.cell? ⟨gu, ou + j, none⟩ = some (.int .i64 (x : Int)) := hcu j (x : Int) (by simp [hx])
        obtain ⟨t1, t2, t3, t4, t5⟩ := unhide HN1
        have ht5 := t5 x hxm
        have hTl : (onAll (addU (i : Nat)) (U.take j) T1).length = mn := by rw [onAll_len, t1]
        have hnot : x ∉ U.take j := by
          intro c
          obtain ⟨q, hq⟩ := List.mem_iff_getElem?.1 c
          have hql : q < j := by have := (List.getElem?_eq_some_iff.1 hq).1; simp at this; omega
          rw [List.getElem?_take_of_lt hql] at hq
          have := List.pairwise_iff_getElem.1 (List.nodup_iff_pairwise_ne.1 t4) q j (by have := unhide HM; omega) (by have := unhide HM; omega) hql
          rw [(List.getElem?_eq_some_iff.1 hq).2, (List.getElem?_eq_some_iff.1 hx).2] at this
          exact this rfl
        have hnd : ndAt (onAll (addU (i : Nat)) (U.take j) T1) x = ndAt T1 x := by rw [ndAt_onAll _ _ _ _ t4.take, if_neg (by simp [hnot])]
        have hsn : Hid (onAll (addU (i : Nat)) (U.take (j + 1)) T1 = (onAll (addU (i : Nat)) (U.take j) T1).set x (addU (i : Nat) (ndAt T1 x))) := by
          unfold Hid; rw [List.take_add_one, hx]; show onAll _ (U.take j ++ [x]) _ = _; rw [onAll_snoc, hnd]
        have hxl : x < (onAll (addU (i : Nat)) (U.take j) T1).length := by have := unhide HMN2; omega
        obtain ⟨hU1, hU2⟩ := unhide HU1 x hxm
        have cN := (unhide hDX).cell
        have q1 : (j : Int) < (M : Int) := by omega
        have q0 : (0 : Int) ≤ (j : Int) := by omega
        have p2 : (x : Int) < (mn : Int) := by have := unhide HMN2; omega
        have p3 : (0 : Int) ≤ (x : Int) := by omega
        have hM3 : (M : Int) ≤ 3 := by omega
        obtain ⟨u, hu, ⟨z0, z1, z2, z3⟩, hfz⟩ := (unhide hDX).at hxl
        have hIu := (unhide hDX).tr.un x _ u (ndAt_of hxl) hu
        rw [hnd] at z0 hIu
        have HND := hide hnd
        have HXL := hide hxl
        have HFZ := hide hfz
        have HIU := hide hIu
        generalize hTj : onAll (addU (i : Nat)) (U.take j) T1 = Tj at *
        obtain ⟨nx, hnx⟩ : ∃ nx, nx = ndAt T1 x := ⟨_, rfl⟩
        rw [← hnx] at z0 HIU HND hsn hU1 hU2
        clear hcu hx hxm t1 t2 t3 t4 t5 ht5 hTl hnot hnd hxl hIu hTj hnx z1 z2 hu hfz
        obtain ⟨ua, uc, hue⟩ := own_slice (unhide HIU)
        subst hue
        by_cases hp : nx.pub = 0
        · rw [hp] at z0
          have HZ : Hid (∀ m, DX W0 (wr.drewN m) nb g mn mc (onAll (addU (i : Nat)) (U.take (j + 1)) T1) us' ∧ Ints W4b.heap.size (wr.drewN m) (.slice (some ⟨gu, ou, none⟩) M rc) (U.map (fun (x : Nat) => (x : Int)))) := fun m => by
            have e9 : onAll (addU (i : Nat)) (U.take (j + 1)) T1 = Tj := by rw [unhide hsn, addU_blank hp, ← unhide HND, set_nd (unhide HXL)]
            rw [e9]
            have bb : Below wr.heap.size wr (wr.drewN m) := below_drewN (Below.refl _ _) m
            exact ⟨(unhide hDX).bw bb, (unhide hRV).bw bb⟩
          clear hp hU1 hU2 hsn HND HIU hDX hRV
          go_wp2_with fail
          go_quiet (fail)
          go_wp2_with fail
          go_roundw
          case rel => exact ⟨j + 1, us', by go_num, by omega, (unhide HZ _).1, (unhide HZ _).2⟩
          case measure => simp [intOf]; omega
        · have k2 : (nx.pub != 0) = true := by simp [hp]
          have k3 : decide (nx.pub = 0) = false := by simp [hp]
          have k4 : (nx.pub == 0) = false := by simp [hp]
          have KR : Hid (∀ m, Calls Tryz.prog 105 #[.slice ua nx.un.length uc, .int .i64 (i : Int)] (wr.drewN m) fun e w' => ∃ r, e = .returned r ∧ Ints (wr.drewN m).heap.size w' r (rsU (i : Int) nx.un) ∧ Below (wr.drewN m).heap.size (wr.drewN m) w') := fun m => rrising_any ((unhide HIU).nums.bw (below_drewN (Below.refl _ _) m)) (i : Int) (by omega)
          have HZ : Hid (∀ m w9 r, Below (wr.drewN m).heap.size (wr.drewN m) w9 → Ints (wr.drewN m).heap.size w9 r (rsU (i : Int) nx.un) → (w9.cell? ⟨g, x * 4 + 3, none⟩ = some (.slice ua nx.un.length uc) ∧ w9.frozen? ⟨g, x * 4 + 3, none⟩ = false) ∧ DX W0 (w9.setCell ⟨g, x * 4 + 3, none⟩ r) nb g mn mc (onAll (addU (i : Nat)) (U.take (j + 1)) T1) (us'.set x r) ∧ Ints W4b.heap.size (w9.setCell ⟨g, x * 4 + 3, none⟩ r) (.slice (some ⟨gu, ou, none⟩) M rc) (U.map (fun (x : Nat) => (x : Int)))) := fun m w9 r b9 hr9 => by
            have bb : Below wr.heap.size wr w9 := (below_drewN (Below.refl _ _) m).trans b9
            have hD9 := (unhide hDX).bw bb
            obtain ⟨u', hu', hc', hf'⟩ := hD9.at (unhide HXL)
            have hglt := lt_of_cell hc'.c3
            refine ⟨⟨?_, hf' _⟩, ?_, ?_⟩
            · rw [bb.cell (p := ⟨g, x * 4 + 3, none⟩) (lt_of_cell z3)]; exact z3
            · have hsz9 : W0.heap.size ≤ (wr.drewN m).heap.size := by
                have q : (wr.drewN m).heap.size = wr.heap.size := by simp
                have := (unhide hDX).bel.size
                omega
              have hr0 : Ints W0.heap.size w9 r (rsU (i : Int) nx.un) := hr9.mono hsz9
              have := hD9.setU (unhide HXL) (u' := r) hr0 (Or.inr (fun q hq c => by
                have q1 := (World.ownsRow.lt hr9 q hq).1
                have q2 := ((unhide hDX).tr.blocksC q c).2
                have q3 : (wr.drewN m).heap.size = wr.heap.size := by simp
                omega))
              rw [unhide HND] at this
              rw [unhide hsn, addU_rs hp hU1]
              exact this
            · have h9 := (unhide hRV).bw bb
              exact own_keep h9 (fun q hq => Below.heap_setCell _ _ _ _ (by simp; rintro rfl; exact own_apart h9 hD9.tr.row (show (3 : Nat) ≠ 59 by decide) hq rfl))
          generalize hnl : nx.un.length = nl at *
          generalize nx.pub = px at *
          clear hp hU1 hsn HND HIU hDX hRV hU2 hnl
          go_wp2_with fail
          go_quiet (fail)
          go_wp2_with fail
          refine (unhide KR _).mono ?_
          rintro e w9 ⟨r, rfl, hr9, b9⟩
          obtain ⟨⟨h91, h92⟩, h93⟩ := unhide HZ _ w9 r b9 hr9
          obtain ⟨r9a, r9c, hr9e⟩ := own_slice hr9
          subst hr9e
          have HZ9 := hide h93
          clear hr9 b9 h93 HZ KR z0 z3
          go_wp2_with fail
          go_roundw
          case rel => exact ⟨j + 1, _, by go_num, by omega, (unhide HZ9).1, (unhide HZ9).2⟩
          case measure => simp [intOf]; omega
      · obtain rfl : j = M := by omega
        have e9 : U.take j = U := List.take_of_length_le (by have := unhide HM; omega)
        rw [e9, ← unhide HADD] at hDX
        have cN := (unhide hDX).cell
        obtain ⟨-, -, ⟨cR, fR⟩, cW⟩ := unhide HB _ (unhide hDX).bel
        have HS := unhide HS0
        have HF : Hid (OTr w.heap.size (wr.setCell ⟨w.heap.size + 1 + 1, 0, none⟩ (.slice (some ⟨g, 0, none⟩) mn mc)) (.slice (some ⟨g, 0, none⟩) mn mc) (addT T mm ee pp) us' ∧ Below w.heap.size w (wr.setCell ⟨w.heap.size + 1 + 1, 0, none⟩ (.slice (some ⟨g, 0, none⟩) mn mc))) :=
          ⟨((unhide hDX).tr.keepB (fun k hk => Below.heap_setCell _ _ _ _ (by simp; omega))).mono (by omega), cW.setCell (by simp; omega) _⟩
        have cZ : (wr.setCell ⟨w.heap.size + 1 + 1, 0, none⟩ (.slice (some ⟨g, 0, none⟩) mn mc)).cell? ⟨w.heap.size + 1 + 1, 0, none⟩ = some (.slice (some ⟨g, 0, none⟩) mn mc) := cell_set_same cR _
        clear hDX HS cW
        go_wp2_with fail
        generalize wr.setCell ⟨w.heap.size + 1 + 1, 0, none⟩ (.slice (some ⟨g, 0, none⟩) mn mc) = WZ at *
        exact bodyPost_ret (v := .tuple #[.agg #[.slice (some ⟨g, 0, none⟩) mn mc], .int .i64 (i : Int), .int .i64 0]) (by simp [results, Tryz.results60, go_sem, cZ]) rfl ⟨_, _, by first | rfl | rw [unhide HI], (unhide HF).1, (unhide HF).2⟩
  · rw [if_neg hfree]
    obtain rfl : nl = i := by have := (unhide HNL).2.1; omega
    have hi8 : nl < 8 := by
      have q := unhide HNL
      rcases q.1 with q1 | q1
      · omega
      · have q2 := q1.1
        simp [sizes] at q2
        have := q.2.2.1
        omega
    have HTGT : Hid (N ≤ mn ∧ (0 < mn ∧ mn ≤ 15) ∧ ((nl = 0 ∧ mn = 1) ∨ (0 < nl ∧ mn = 4 * nl - 1))) := by
      have q := unhide HNL
      have h1 := unhide HMN
      have hw : wRoom nl nl = if nl = 0 then 1 else 2 * nl := by unfold wRoom; rw [if_neg (by omega)]
      rw [q.2.2.2, hw] at h1
      rcases q.1 with ⟨q1, q2⟩ | ⟨q1, q2⟩
      · rw [if_pos q1] at h1
        exact ⟨by omega, ⟨by omega, by omega⟩, Or.inl ⟨q1, by omega⟩⟩
      · simp [sizes] at q1
        rw [if_neg (by omega)] at h1
        exact ⟨by omega, ⟨by omega, by omega⟩, Or.inr ⟨by omega, by omega⟩⟩
    have KL7 := hide (unhide KL W6)
    have hn8 : ((nl : Nat) : Int) < 8 := by omega
    have hn8' : decide ((8 : Int) ≤ ((nl : Nat) : Int)) = false := decide_eq_false (by omega)
    obtain ⟨c0, -, -, -⟩ := unhide HB _ (unhide hDV).bel
    clear KL hfree
    go_wp2_with fail
    refine (unhide KL7).mono ?_
    rintro e W7 ⟨rfl, b7⟩
    have hDV7 := hide ((unhide hDV).bw b7)
    clear hDV b7 KL7 c0
    go_wp2_with fail
    go_loopw [69] (fun _ wr => ∃ (j L : Nat) (va : Option Addr) (vc : Nat) (us : List Value), Hid (L = N + j ∧ L ≤ mn) ∧ Hid (DV W0 wr nb (.slice va L vc) (T ++ List.replicate j nd0) us)) (fun _ wr => mn - lenW nb wr)
    case atStart => exact ⟨0, N, ra0, rc0, us0, ⟨rfl, (unhide HTGT).1⟩, by rw [List.replicate_zero, List.append_nil]; exact hDV7⟩
    case round =>
      clear hDV7
      obtain ⟨j, L, va, vc, us1, hL, hDV⟩ := hrel
      have cB : wr.cell? ⟨nb, 0, none⟩ = some (.slice va L vc) := cell_of_blk (unhide hDV).box rfl
      have hLb : (L : Int) ≤ 15 := by
        have q := unhide HTGT
        have := (unhide hL).2
        omega
      by_cases hlt : L < mn
      · have hrow := (unhide hDV).tr.row
        have hTl : (T ++ List.replicate j nd0).length = L := by simp; have := unhide HN; have := (unhide hL).1; omega
        rw [hTl] at hrow
        have hsz := (unhide hDV).bel.size
        have HLW : Hid (lenW nb wr = L) := by unfold Hid lenW; rw [cB]
        have HP : Hid (∀ v' w1, (wr.alloc (.cells #[.int .i64 0, .int .i64 0, .int .i64 0, .slice none 0 0] 59)).grownBy w1 (Value.slice va L vc).ownBlock → w1.ownsRow W0.heap.size 59 4 v' (L + 1) (treeC (T ++ List.replicate j nd0) us1 ++ [.int .i64 0, .int .i64 0, .int .i64 0, .slice none 0 0]) →
            (DV W0 (w1.setCell ⟨nb, 0, none⟩ v') nb v' (T ++ List.replicate (j + 1) nd0) (us1 ++ [.slice none 0 0])) ∧ w1.cell? ⟨nb, 0, none⟩ = some (.slice va L vc) ∧ w1.frozen? ⟨nb, 0, none⟩ = false) := fun v' w1 hg ho => by
          have := (unhide hDV).blank hg (by rw [hTl]; exact ho)
          rw [List.replicate_succ', ← List.append_assoc]
          exact this
        have HL1 : Hid (L + 1 = N + (j + 1) ∧ L + 1 ≤ mn) := ⟨by have := (unhide hL).1; omega, by omega⟩
        have hcond : (L : Int) < 2 * ((nl : Nat) : Int) + 1 ∨ (¬ (L : Int) < 2 * ((nl : Nat) : Int) + 1 ∧ (0 : Int) < ((nl : Nat) : Int) ∧ (L : Int) < 4 * ((nl : Nat) : Int) - 1) := by
          have q := unhide HTGT
          omega
        have HLT := hide hlt
        clear hDV hL hTl hlt
        rcases hcond with hc1 | ⟨hc1, hc2, hc3⟩
        · go_wp2_with (at_builtin; refine wpList_append_own _ rfl (.tmp 71) (.tmp 73) 42 rfl W0.heap.size 59 j0 (.agg #[.int .i64 0, .int .i64 0, .int .i64 0, .slice none 0 0]) 4 48 Tryz.underlying42 hj0 hz0 hz1 hz2 rfl (by decide) _ L _ rfl (World.ownsRow.alloc hrow _) ⟨wr.heap.size, 0, none⟩ 1 1 [.int .i64 0, .int .i64 0, .int .i64 0, .slice none 0 0] rfl rfl (cells_newB4 wr _ _ _ _ _) (oneNode 0) ?c3 ?c4 ?c5 ?ny)
          case c3 => unfold maxLen; omega
          case c4 => omega
          case c5 => first | (simp; omega) | omega
          case ny =>
            intro v' w1 hown' hgrow _
            obtain ⟨h1, h2, h3⟩ := unhide HP v' w1 hgrow hown'
            obtain ⟨v'a, v'c, hve⟩ := own_slice hown'
            subst hve
            have HZ : Hid (DV W0 (w1.setCell ⟨nb, 0, none⟩ (.slice v'a (L + 1) v'c)) nb (.slice v'a (L + 1) v'c) (T ++ List.replicate (j + 1) nd0) (us1 ++ [.slice none 0 0])) := h1
            have HLW2 : Hid (lenW nb (w1.setCell ⟨nb, 0, none⟩ (.slice v'a (L + 1) v'c)) = L + 1) := by
              have hc := cell_of_blk h1.box (o := 0) (v := .slice v'a (L + 1) v'c) rfl
              unfold Hid lenW; rw [hc]
            clear hown' hgrow h1 HP hrow
            go_wp2_with fail
            go_roundw
            case rel => exact ⟨j + 1, L + 1, v'a, v'c, _, HL1, HZ⟩
            case measure => rw [unhide HLW2, unhide HLW]; have := unhide HLT; omega
        · have hc1' : decide ((L : Int) < 2 * ((nl : Nat) : Int) + 1) = false := decide_eq_false hc1
          go_wp2_with (at_builtin; refine wpList_append_own _ rfl (.tmp 71) (.tmp 73) 42 rfl W0.heap.size 59 j0 (.agg #[.int .i64 0, .int .i64 0, .int .i64 0, .slice none 0 0]) 4 48 Tryz.underlying42 hj0 hz0 hz1 hz2 rfl (by decide) _ L _ rfl (World.ownsRow.alloc hrow _) ⟨wr.heap.size, 0, none⟩ 1 1 [.int .i64 0, .int .i64 0, .int .i64 0, .slice none 0 0] rfl rfl (cells_newB4 wr _ _ _ _ _) (oneNode 0) ?c3 ?c4 ?c5 ?ny)
          case c3 => unfold maxLen; omega
          case c4 => omega
          case c5 => first | (simp; omega) | omega
          case ny =>
            intro v' w1 hown' hgrow _
            obtain ⟨h1, h2, h3⟩ := unhide HP v' w1 hgrow hown'
            obtain ⟨v'a, v'c, hve⟩ := own_slice hown'
            subst hve
            have HZ : Hid (DV W0 (w1.setCell ⟨nb, 0, none⟩ (.slice v'a (L + 1) v'c)) nb (.slice v'a (L + 1) v'c) (T ++ List.replicate (j + 1) nd0) (us1 ++ [.slice none 0 0])) := h1
            have HLW2 : Hid (lenW nb (w1.setCell ⟨nb, 0, none⟩ (.slice v'a (L + 1) v'c)) = L + 1) := by
              have hc := cell_of_blk h1.box (o := 0) (v := .slice v'a (L + 1) v'c) rfl
              unfold Hid lenW; rw [hc]
            clear hown' hgrow h1 HP hrow
            go_wp2_with fail
            go_roundw
            case rel => exact ⟨j + 1, L + 1, v'a, v'c, _, HL1, HZ⟩
            case measure => rw [unhide HLW2, unhide HLW]; have := unhide HLT; omega
      · have hLm : L = mn := by have := (unhide hL).2; omega
        have hTF : T ++ List.replicate j nd0 = F := by rw [fit_push, unhide HFF]; congr 1; have := (unhide hL).1; have := unhide HN; omega
        have hFl : F.length = mn := by rw [unhide HFF, fit_len]
        have hDVF := unhide hDV
        rw [hTF] at hDVF
        obtain ⟨g, mc, hge, hDXT⟩ := hDVF.dx (by rw [hFl]; exact (unhide HTGT).2.1.1)
        rw [hFl] at hge hDXT
        cases hge
        generalize vc = mc at *
        have hDX : Hid (DX W0 wr nb g mn mc F us1) := hDXT
        have q := unhide HTGT
        have hx1 : decide ((mn : Int) < 2 * ((nl : Nat) : Int) + 1) = false := decide_eq_false (by omega)
        have hx2 : decide ((0 : Int) < ((nl : Nat) : Int)) = false ∨ (decide ((0 : Int) < ((nl : Nat) : Int)) = true ∧ decide ((mn : Int) < 4 * ((nl : Nat) : Int) - 1) = false) := by
          rcases q.2.2 with ⟨q1, q2⟩ | ⟨q1, q2⟩
          · left; exact decide_eq_false (by omega)
          · right; exact ⟨decide_eq_true (by omega), decide_eq_false (by omega)⟩
        generalize us1 = us at *
        have hnl : nl < 8 := hi8
        clear hDV hDXT hDVF hTF hFl hL hLm q hlt
        obtain ⟨i, hi⟩ : ∃ i, i = nl := ⟨_, rfl⟩
        obtain ⟨wc, hwc⟩ : ∃ wc, wc = wr := ⟨_, rfl⟩
        rw [← hwc] at hDX cB ⊢
        rw [← hi] at HADD HUN HR hx1 hx2 hn8 ⊢
        have HI := hide hi
        clear hwc HTGT HNL hi hi8 hn8' hnl
        rcases hx2 with hx2 | ⟨hx2, hx3⟩
        · have hx4 : ¬ (0 < i) := by have := of_decide_eq_false hx2; omega
          have hx5 : decide (0 < i) = false := decide_eq_false hx4
          have hx6 : ¬ ((mn : Int) < 2 * (i : Int) + 1) := of_decide_eq_false hx1
          go_upto_region 14 with fail
          clear cB hx1 hx2 hx4 hx5 hx6
          -- the node of who comes in
          obtain ⟨r1, r2, d1, d4, d5, d7⟩ := unhide HR
          obtain ⟨x2, hx2⟩ : ∃ x2, x2 = 2 * i := ⟨_, rfl⟩
          rw [← hx2] at d1 HADD
          have hFl : F.length = mn := by rw [unhide HFF, fit_len]
          have hmn := unhide HMN
          have hx2l : x2 < F.length := by omega
          obtain ⟨u2, hu2, ⟨e0, e1, e2, e3⟩, hfz⟩ := (unhide hDX).at hx2l
          have f0 := hfz (x2 * 4); have f1 := hfz (x2 * 4 + 1); have f2 := hfz (x2 * 4 + 2); have f3 := hfz (x2 * 4 + 3)
          have cN := (unhide hDX).cell
          obtain ⟨-, ⟨c1, c2, c3⟩, -, -⟩ := unhide HB _ (unhide hDX).bel
          have hmn15 : mn ≤ 15 := by simp [sizes] at r1; omega
          have p1 : 2 * (i : Int) = (x2 : Int) := by omega
          have p2 : (x2 : Int) < (mn : Int) := by omega
          have p3 : (0 : Int) ≤ (x2 : Int) := by omega
          have p4 : (mn : Int) ≤ 15 := by omega
          have hDX4 : Hid (DX W0 ((((wc.setCell ⟨g, x2 * 4, none⟩ (.int .i64 pp)).setCell ⟨g, x2 * 4 + 1, none⟩ (.int .i64 mm)).setCell ⟨g, x2 * 4 + 2, none⟩ (.int .i64 ee)).setCell ⟨g, x2 * 4 + 3, none⟩ (.slice none 0 0)) nb g mn mc (F.set x2 ⟨pp, mm, ee, []⟩) (us.set x2 (.slice none 0 0))) := (unhide hDX).set4 hx2l ⟨pp, mm, ee, []⟩ rfl
          obtain ⟨T1, hT1⟩ : ∃ T1, T1 = F.set x2 ⟨pp, mm, ee, []⟩ := ⟨_, rfl⟩
          rw [← hT1] at hDX4 HADD
          have hT1l : T1.length = mn := by rw [hT1, List.length_set, hFl]
          have HU1 : Hid (∀ x, x ∈ upN n i → ((i : Nat) : Int) ∉ (ndAt T1 x).un ∧ (ndAt T1 x).un.length ≤ 8) := fun x hx => by
            have := d5 x hx
            rw [hT1, ndAt_set, if_neg (by omega), unhide HFF, ndAt_fit (by omega)]; exact unhide HUN x
          have HN1 := hide (And.intro hT1l (And.intro r1 (And.intro r2 (And.intro d4 d5))))
          have HD1 := hide d1
          have HMN2 : Hid (2 * n - 1 = mn) := hmn.symm
          have HRL : Hid (rlv mn = n) := by unfold Hid; rw [hmn]; exact rlv_of r1
          clear hDX hT1 hT1l r1 r2 d1 d4 d5 hFl hmn hx2l HR HFF HMN hu2 hfz hx2
          obtain ⟨U, hU⟩ : ∃ U, U = upN n i := ⟨_, rfl⟩
          rw [← hU] at HADD HU1 HN1 HD1 d7
          clear hU
          go_upto_region 15 with fail
          generalize ((((wc.setCell ⟨g, x2 * 4, none⟩ (.int .i64 pp)).setCell ⟨g, x2 * 4 + 1, none⟩ (.int .i64 mm)).setCell ⟨g, x2 * 4 + 2, none⟩ (.int .i64 ee)).setCell ⟨g, x2 * 4 + 3, none⟩ (.slice none 0 0)) = W4 at *
          generalize us.set x2 (.slice none 0 0) = us4 at *
          have cN4 := (unhide hDX4).cell
          have KLv := hide (rleaves_any (some ⟨g, 0, none⟩) mn mc W4 (by omega))
          rw [unhide HRL] at KLv
          clear e0 e1 e2 e3 f0 f1 f2 f3 cN c1 c2 c3
          obtain ⟨M, hM⟩ : ∃ M, M = U.length := ⟨_, rfl⟩
          have HM := hide hM
          rw [← hM] at d7
          clear hM
          go_wp2_with fail
          refine (unhide KLv).mono ?_
          rintro e W4b ⟨rfl, y4⟩
          have hDX4b := hide ((unhide hDX4).bw y4)
          have KD := hide (rdirect_any ((x2 : Nat) : Int) ((n : Nat) : Int) W4b)
          rw [unhide HD1] at KD
          clear KLv cN4 hDX4 y4
          go_wp2_with fail
          refine (unhide KD).mono ?_
          rintro e W5 ⟨rv, rfl, hrv, y5⟩
          have hDX5 := hide ((unhide hDX4b).bw y5)
          obtain ⟨ra, rc, hre⟩ := own_slice hrv
          rw [List.length_map, ← unhide HM] at hre
          subst hre
          have HRV : Hid (Ints W4b.heap.size W5 (.slice ra M rc) (U.map (fun (x : Nat) => (x : Int)))) := hrv
          clear KD hDX4b hrv y5 p2 p3
          go_wp2_with fail
          go_loopw [11] (fun iv wr => ∃ (j : Nat) (us' : List Value), iv = .int .i64 (j : Int) ∧ j ≤ M ∧ Hid (DX W0 wr nb g mn mc (onAll (addU (i : Nat)) (U.take j) T1) us') ∧ Hid (Ints W4b.heap.size wr (.slice ra M rc) (U.map (fun (x : Nat) => (x : Int))))) (fun iv _ => (M - (intOf iv)).toNat)
          case atStart => exact ⟨0, us4, rfl, by omega, by rw [List.take_zero, onAll_nil]; exact hDX5, HRV⟩
          case round =>
            clear HRV hDX5
            obtain ⟨j, us', rfl, hjM, hDX, hRV⟩ := hrel
            by_cases hlt : j < M
            · obtain ⟨x, hx⟩ : ∃ x, U[j]? = some x := ⟨_, List.getElem?_eq_getElem (by have := unhide HM; omega)⟩
              have hxm : x ∈ U := List.mem_of_getElem? hx
              obtain ⟨gu, ou, cu, hue, hcu⟩ := (unhide hRV).nums.open (by simp; have := unhide HM; omega)
              rw [List.length_map, ← unhide HM] at hue
              cases hue
              have k1 : wr.cell? ⟨gu, ou + j, none⟩ = some (.int .i64 (x : Int)) := hcu j (x : Int) (by simp [hx])
              obtain ⟨t1, t2, t3, t4, t5⟩ := unhide HN1
              have ht5 := t5 x hxm
              have hTl : (onAll (addU (i : Nat)) (U.take j) T1).length = mn := by rw [onAll_len, t1]
              have hnot : x ∉ U.take j := by
                intro c
                obtain ⟨q, hq⟩ := List.mem_iff_getElem?.1 c
                have hql : q < j := by have := (List.getElem?_eq_some_iff.1 hq).1; simp at this; omega
                rw [List.getElem?_take_of_lt hql] at hq
                have := List.pairwise_iff_getElem.1 (List.nodup_iff_pairwise_ne.1 t4) q j (by have := unhide HM; omega) (by have := unhide HM; omega) hql
                rw [(List.getElem?_eq_some_iff.1 hq).2, (List.getElem?_eq_some_iff.1 hx).2] at this
                exact this rfl
              have hnd : ndAt (onAll (addU (i : Nat)) (U.take j) T1) x = ndAt T1 x := by rw [ndAt_onAll _ _ _ _ t4.take, if_neg (by simp [hnot])]
              have hsn : Hid (onAll (addU (i : Nat)) (U.take (j + 1)) T1 = (onAll (addU (i : Nat)) (U.take j) T1).set x (addU (i : Nat) (ndAt T1 x))) := by
                unfold Hid; rw [List.take_add_one, hx]; show onAll _ (U.take j ++ [x]) _ = _; rw [onAll_snoc, hnd]
              have hxl : x < (onAll (addU (i : Nat)) (U.take j) T1).length := by have := unhide HMN2; omega
              obtain ⟨hU1, hU2⟩ := unhide HU1 x hxm
              have cN := (unhide hDX).cell
              have q1 : (j : Int) < (M : Int) := by omega
              have q0 : (0 : Int) ≤ (j : Int) := by omega
              have p2 : (x : Int) < (mn : Int) := by have := unhide HMN2; omega
              have p3 : (0 : Int) ≤ (x : Int) := by omega
              have hM3 : (M : Int) ≤ 3 := by omega
              obtain ⟨u, hu, ⟨z0, z1, z2, z3⟩, hfz⟩ := (unhide hDX).at hxl
              have hIu := (unhide hDX).tr.un x _ u (ndAt_of hxl) hu
              rw [hnd] at z0 hIu
              have HND := hide hnd
              have HXL := hide hxl
              have HFZ := hide hfz
              have HIU := hide hIu
              generalize hTj : onAll (addU (i : Nat)) (U.take j) T1 = Tj at *
              obtain ⟨nx, hnx⟩ : ∃ nx, nx = ndAt T1 x := ⟨_, rfl⟩
              rw [← hnx] at z0 HIU HND hsn hU1 hU2
              clear hcu hx hxm t1 t2 t3 t4 t5 ht5 hTl hnot hnd hxl hIu hTj hnx z1 z2 hu hfz
              obtain ⟨ua, uc, hue⟩ := own_slice (unhide HIU)
              subst hue
              by_cases hp : nx.pub = 0
              · rw [hp] at z0
                have HZ : Hid (∀ m, DX W0 (wr.drewN m) nb g mn mc (onAll (addU (i : Nat)) (U.take (j + 1)) T1) us' ∧ Ints W4b.heap.size (wr.drewN m) (.slice (some ⟨gu, ou, none⟩) M rc) (U.map (fun (x : Nat) => (x : Int)))) := fun m => by
                  have e9 : onAll (addU (i : Nat)) (U.take (j + 1)) T1 = Tj := by rw [unhide hsn, addU_blank hp, ← unhide HND, set_nd (unhide HXL)]
                  rw [e9]
                  have bb : Below wr.heap.size wr (wr.drewN m) := below_drewN (Below.refl _ _) m
                  exact ⟨(unhide hDX).bw bb, (unhide hRV).bw bb⟩
                clear hp hU1 hU2 hsn HND HIU hDX hRV
                go_wp2_with fail
                go_quiet (fail)
                go_wp2_with fail
                go_roundw
                case rel => exact ⟨j + 1, us', by go_num, by omega, (unhide HZ _).1, (unhide HZ _).2⟩
                case measure => simp [intOf]; omega
              · have k2 : (nx.pub != 0) = true := by simp [hp]
                have k3 : decide (nx.pub = 0) = false := by simp [hp]
                have k4 : (nx.pub == 0) = false := by simp [hp]
                have KR : Hid (∀ m, Calls Tryz.prog 105 #[.slice ua nx.un.length uc, .int .i64 (i : Int)] (wr.drewN m) fun e w' => ∃ r, e = .returned r ∧ Ints (wr.drewN m).heap.size w' r (rsU (i : Int) nx.un) ∧ Below (wr.drewN m).heap.size (wr.drewN m) w') := fun m => rrising_any ((unhide HIU).nums.bw (below_drewN (Below.refl _ _) m)) (i : Int) (by omega)
                have HZ : Hid (∀ m w9 r, Below (wr.drewN m).heap.size (wr.drewN m) w9 → Ints (wr.drewN m).heap.size w9 r (rsU (i : Int) nx.un) → (w9.cell? ⟨g, x * 4 + 3, none⟩ = some (.slice ua nx.un.length uc) ∧ w9.frozen? ⟨g, x * 4 + 3, none⟩ = false) ∧ DX W0 (w9.setCell ⟨g, x * 4 + 3, none⟩ r) nb g mn mc (onAll (addU (i : Nat)) (U.take (j + 1)) T1) (us'.set x r) ∧ Ints W4b.heap.size (w9.setCell ⟨g, x * 4 + 3, none⟩ r) (.slice (some ⟨gu, ou, none⟩) M rc) (U.map (fun (x : Nat) => (x : Int)))) := fun m w9 r b9 hr9 => by
                  have bb : Below wr.heap.size wr w9 := (below_drewN (Below.refl _ _) m).trans b9
                  have hD9 := (unhide hDX).bw bb
                  obtain ⟨u', hu', hc', hf'⟩ := hD9.at (unhide HXL)
                  have hglt := lt_of_cell hc'.c3
                  refine ⟨⟨?_, hf' _⟩, ?_, ?_⟩
                  · rw [bb.cell (p := ⟨g, x * 4 + 3, none⟩) (lt_of_cell z3)]; exact z3
                  · have hsz9 : W0.heap.size ≤ (wr.drewN m).heap.size := by
                      have q : (wr.drewN m).heap.size = wr.heap.size := by simp
                      have := (unhide hDX).bel.size
                      omega
                    have hr0 : Ints W0.heap.size w9 r (rsU (i : Int) nx.un) := hr9.mono hsz9
                    have := hD9.setU (unhide HXL) (u' := r) hr0 (Or.inr (fun q hq c => by
                      have q1 := (World.ownsRow.lt hr9 q hq).1
                      have q2 := ((unhide hDX).tr.blocksC q c).2
                      have q3 : (wr.drewN m).heap.size = wr.heap.size := by simp
                      omega))
                    rw [unhide HND] at this
                    rw [unhide hsn, addU_rs hp hU1]
                    exact this
                  · have h9 := (unhide hRV).bw bb
                    exact own_keep h9 (fun q hq => Below.heap_setCell _ _ _ _ (by simp; rintro rfl; exact own_apart h9 hD9.tr.row (show (3 : Nat) ≠ 59 by decide) hq rfl))
                generalize hnl : nx.un.length = nl at *
                generalize nx.pub = px at *
                clear hp hU1 hsn HND HIU hDX hRV hU2 hnl
                go_wp2_with fail
                go_quiet (fail)
                go_wp2_with fail
                refine (unhide KR _).mono ?_
                rintro e w9 ⟨r, rfl, hr9, b9⟩
                obtain ⟨⟨h91, h92⟩, h93⟩ := unhide HZ _ w9 r b9 hr9
                obtain ⟨r9a, r9c, hr9e⟩ := own_slice hr9
                subst hr9e
                have HZ9 := hide h93
                clear hr9 b9 h93 HZ KR z0 z3
                go_wp2_with fail
                go_roundw
                case rel => exact ⟨j + 1, _, by go_num, by omega, (unhide HZ9).1, (unhide HZ9).2⟩
                case measure => simp [intOf]; omega
            · obtain rfl : j = M := by omega
              have e9 : U.take j = U := List.take_of_length_le (by have := unhide HM; omega)
              rw [e9, ← unhide HADD] at hDX
              have cN := (unhide hDX).cell
              obtain ⟨-, -, ⟨cR, fR⟩, cW⟩ := unhide HB _ (unhide hDX).bel
              have HS := unhide HS0
              have HF : Hid (OTr w.heap.size (wr.setCell ⟨w.heap.size + 1 + 1, 0, none⟩ (.slice (some ⟨g, 0, none⟩) mn mc)) (.slice (some ⟨g, 0, none⟩) mn mc) (addT T mm ee pp) us' ∧ Below w.heap.size w (wr.setCell ⟨w.heap.size + 1 + 1, 0, none⟩ (.slice (some ⟨g, 0, none⟩) mn mc))) :=
                ⟨((unhide hDX).tr.keepB (fun k hk => Below.heap_setCell _ _ _ _ (by simp; omega))).mono (by omega), cW.setCell (by simp; omega) _⟩
              have cZ : (wr.setCell ⟨w.heap.size + 1 + 1, 0, none⟩ (.slice (some ⟨g, 0, none⟩) mn mc)).cell? ⟨w.heap.size + 1 + 1, 0, none⟩ = some (.slice (some ⟨g, 0, none⟩) mn mc) := cell_set_same cR _
              clear hDX HS cW
              go_wp2_with fail
              generalize wr.setCell ⟨w.heap.size + 1 + 1, 0, none⟩ (.slice (some ⟨g, 0, none⟩) mn mc) = WZ at *
              exact bodyPost_ret (v := .tuple #[.agg #[.slice (some ⟨g, 0, none⟩) mn mc], .int .i64 (i : Int), .int .i64 0]) (by simp [results, Tryz.results60, go_sem, cZ]) rfl ⟨_, _, by first | rfl | rw [unhide HI], (unhide HF).1, (unhide HF).2⟩
        · have hx4 : 0 < i := by have := of_decide_eq_true hx2; omega
          have hx5 : ¬ ((mn : Int) < 4 * (i : Int) - 1) := of_decide_eq_false hx3
          have hx6 : ¬ ((mn : Int) < 2 * (i : Int) + 1) := of_decide_eq_false hx1
          go_upto_region 14 with fail
          clear cB hx1 hx2 hx3 hx4 hx5 hx6
          -- the node of who comes in
          obtain ⟨r1, r2, d1, d4, d5, d7⟩ := unhide HR
          obtain ⟨x2, hx2⟩ : ∃ x2, x2 = 2 * i := ⟨_, rfl⟩
          rw [← hx2] at d1 HADD
          have hFl : F.length = mn := by rw [unhide HFF, fit_len]
          have hmn := unhide HMN
          have hx2l : x2 < F.length := by omega
          obtain ⟨u2, hu2, ⟨e0, e1, e2, e3⟩, hfz⟩ := (unhide hDX).at hx2l
          have f0 := hfz (x2 * 4); have f1 := hfz (x2 * 4 + 1); have f2 := hfz (x2 * 4 + 2); have f3 := hfz (x2 * 4 + 3)
          have cN := (unhide hDX).cell
          obtain ⟨-, ⟨c1, c2, c3⟩, -, -⟩ := unhide HB _ (unhide hDX).bel
          have hmn15 : mn ≤ 15 := by simp [sizes] at r1; omega
          have p1 : 2 * (i : Int) = (x2 : Int) := by omega
          have p2 : (x2 : Int) < (mn : Int) := by omega
          have p3 : (0 : Int) ≤ (x2 : Int) := by omega
          have p4 : (mn : Int) ≤ 15 := by omega
          have hDX4 : Hid (DX W0 ((((wc.setCell ⟨g, x2 * 4, none⟩ (.int .i64 pp)).setCell ⟨g, x2 * 4 + 1, none⟩ (.int .i64 mm)).setCell ⟨g, x2 * 4 + 2, none⟩ (.int .i64 ee)).setCell ⟨g, x2 * 4 + 3, none⟩ (.slice none 0 0)) nb g mn mc (F.set x2 ⟨pp, mm, ee, []⟩) (us.set x2 (.slice none 0 0))) := (unhide hDX).set4 hx2l ⟨pp, mm, ee, []⟩ rfl
          obtain ⟨T1, hT1⟩ : ∃ T1, T1 = F.set x2 ⟨pp, mm, ee, []⟩ := ⟨_, rfl⟩
          rw [← hT1] at hDX4 HADD
          have hT1l : T1.length = mn := by rw [hT1, List.length_set, hFl]
          have HU1 : Hid (∀ x, x ∈ upN n i → ((i : Nat) : Int) ∉ (ndAt T1 x).un ∧ (ndAt T1 x).un.length ≤ 8) := fun x hx => by
            have := d5 x hx
            rw [hT1, ndAt_set, if_neg (by omega), unhide HFF, ndAt_fit (by omega)]; exact unhide HUN x
          have HN1 := hide (And.intro hT1l (And.intro r1 (And.intro r2 (And.intro d4 d5))))
          have HD1 := hide d1
          have HMN2 : Hid (2 * n - 1 = mn) := hmn.symm
          have HRL : Hid (rlv mn = n) := by unfold Hid; rw [hmn]; exact rlv_of r1
          clear hDX hT1 hT1l r1 r2 d1 d4 d5 hFl hmn hx2l HR HFF HMN hu2 hfz hx2
          obtain ⟨U, hU⟩ : ∃ U, U = upN n i := ⟨_, rfl⟩
          rw [← hU] at HADD HU1 HN1 HD1 d7
          clear hU
          go_upto_region 15 with fail
          generalize ((((wc.setCell ⟨g, x2 * 4, none⟩ (.int .i64 pp)).setCell ⟨g, x2 * 4 + 1, none⟩ (.int .i64 mm)).setCell ⟨g, x2 * 4 + 2, none⟩ (.int .i64 ee)).setCell ⟨g, x2 * 4 + 3, none⟩ (.slice none 0 0)) = W4 at *
          generalize us.set x2 (.slice none 0 0) = us4 at *
          have cN4 := (unhide hDX4).cell
          have KLv := hide (rleaves_any (some ⟨g, 0, none⟩) mn mc W4 (by omega))
          rw [unhide HRL] at KLv
          clear e0 e1 e2 e3 f0 f1 f2 f3 cN c1 c2 c3
          obtain ⟨M, hM⟩ : ∃ M, M = U.length := ⟨_, rfl⟩
          have HM := hide hM
          rw [← hM] at d7
          clear hM
          go_wp2_with fail
          refine (unhide KLv).mono ?_
          rintro e W4b ⟨rfl, y4⟩
          have hDX4b := hide ((unhide hDX4).bw y4)
          have KD := hide (rdirect_any ((x2 : Nat) : Int) ((n : Nat) : Int) W4b)
          rw [unhide HD1] at KD
          clear KLv cN4 hDX4 y4
          go_wp2_with fail
          refine (unhide KD).mono ?_
          rintro e W5 ⟨rv, rfl, hrv, y5⟩
          have hDX5 := hide ((unhide hDX4b).bw y5)
          obtain ⟨ra, rc, hre⟩ := own_slice hrv
          rw [List.length_map, ← unhide HM] at hre
          subst hre
          have HRV : Hid (Ints W4b.heap.size W5 (.slice ra M rc) (U.map (fun (x : Nat) => (x : Int)))) := hrv
          clear KD hDX4b hrv y5 p2 p3
          go_wp2_with fail
          go_loopw [11] (fun iv wr => ∃ (j : Nat) (us' : List Value), iv = .int .i64 (j : Int) ∧ j ≤ M ∧ Hid (DX W0 wr nb g mn mc (onAll (addU (i : Nat)) (U.take j) T1) us') ∧ Hid (Ints W4b.heap.size wr (.slice ra M rc) (U.map (fun (x : Nat) => (x : Int))))) (fun iv _ => (M - (intOf iv)).toNat)
          case atStart => exact ⟨0, us4, rfl, by omega, by rw [List.take_zero, onAll_nil]; exact hDX5, HRV⟩
          case round =>
            clear HRV hDX5
            obtain ⟨j, us', rfl, hjM, hDX, hRV⟩ := hrel
            by_cases hlt : j < M
            · obtain ⟨x, hx⟩ : ∃ x, U[j]? = some x := ⟨_, List.getElem?_eq_getElem (by have := unhide HM; omega)⟩
              have hxm : x ∈ U := List.mem_of_getElem? hx
              obtain ⟨gu, ou, cu, hue, hcu⟩ := (unhide hRV).nums.open (by simp; have := unhide HM; omega)
              rw [List.length_map, ← unhide HM] at hue
              cases hue
              have k1 : wr.cell? ⟨gu, ou + j, none⟩ = some (.int .i64 (x : Int)) := hcu j (x : Int) (by simp [hx])
              obtain ⟨t1, t2, t3, t4, t5⟩ := unhide HN1
              have ht5 := t5 x hxm
              have hTl : (onAll (addU (i : Nat)) (U.take j) T1).length = mn := by rw [onAll_len, t1]
              have hnot : x ∉ U.take j := by
                intro c
                obtain ⟨q, hq⟩ := List.mem_iff_getElem?.1 c
                have hql : q < j := by have := (List.getElem?_eq_some_iff.1 hq).1; simp at this; omega
                rw [List.getElem?_take_of_lt hql] at hq
                have := List.pairwise_iff_getElem.1 (List.nodup_iff_pairwise_ne.1 t4) q j (by have := unhide HM; omega) (by have := unhide HM; omega) hql
                rw [(List.getElem?_eq_some_iff.1 hq).2, (List.getElem?_eq_some_iff.1 hx).2] at this
                exact this rfl
              have hnd : ndAt (onAll (addU (i : Nat)) (U.take j) T1) x = ndAt T1 x := by rw [ndAt_onAll _ _ _ _ t4.take, if_neg (by simp [hnot])]
              have hsn : Hid (onAll (addU (i : Nat)) (U.take (j + 1)) T1 = (onAll (addU (i : Nat)) (U.take j) T1).set x (addU (i : Nat) (ndAt T1 x))) := by
                unfold Hid; rw [List.take_add_one, hx]; show onAll _ (U.take j ++ [x]) _ = _; rw [onAll_snoc, hnd]
              have hxl : x < (onAll (addU (i : Nat)) (U.take j) T1).length := by have := unhide HMN2; omega
              obtain ⟨hU1, hU2⟩ := unhide HU1 x hxm
              have cN := (unhide hDX).cell
              have q1 : (j : Int) < (M : Int) := by omega
              have q0 : (0 : Int) ≤ (j : Int) := by omega
              have p2 : (x : Int) < (mn : Int) := by have := unhide HMN2; omega
              have p3 : (0 : Int) ≤ (x : Int) := by omega
              have hM3 : (M : Int) ≤ 3 := by omega
              obtain ⟨u, hu, ⟨z0, z1, z2, z3⟩, hfz⟩ := (unhide hDX).at hxl
              have hIu := (unhide hDX).tr.un x _ u (ndAt_of hxl) hu
              rw [hnd] at z0 hIu
              have HND := hide hnd
              have HXL := hide hxl
              have HFZ := hide hfz
              have HIU := hide hIu
              generalize hTj : onAll (addU (i : Nat)) (U.take j) T1 = Tj at *
              obtain ⟨nx, hnx⟩ : ∃ nx, nx = ndAt T1 x := ⟨_, rfl⟩
              rw [← hnx] at z0 HIU HND hsn hU1 hU2
              clear hcu hx hxm t1 t2 t3 t4 t5 ht5 hTl hnot hnd hxl hIu hTj hnx z1 z2 hu hfz
              obtain ⟨ua, uc, hue⟩ := own_slice (unhide HIU)
              subst hue
              by_cases hp : nx.pub = 0
              · rw [hp] at z0
                have HZ : Hid (∀ m, DX W0 (wr.drewN m) nb g mn mc (onAll (addU (i : Nat)) (U.take (j + 1)) T1) us' ∧ Ints W4b.heap.size (wr.drewN m) (.slice (some ⟨gu, ou, none⟩) M rc) (U.map (fun (x : Nat) => (x : Int)))) := fun m => by
                  have e9 : onAll (addU (i : Nat)) (U.take (j + 1)) T1 = Tj := by rw [unhide hsn, addU_blank hp, ← unhide HND, set_nd (unhide HXL)]
                  rw [e9]
                  have bb : Below wr.heap.size wr (wr.drewN m) := below_drewN (Below.refl _ _) m
                  exact ⟨(unhide hDX).bw bb, (unhide hRV).bw bb⟩
                clear hp hU1 hU2 hsn HND HIU hDX hRV
                go_wp2_with fail
                go_quiet (fail)
                go_wp2_with fail
                go_roundw
                case rel => exact ⟨j + 1, us', by go_num, by omega, (unhide HZ _).1, (unhide HZ _).2⟩
                case measure => simp [intOf]; omega
              · have k2 : (nx.pub != 0) = true := by simp [hp]
                have k3 : decide (nx.pub = 0) = false := by simp [hp]
                have k4 : (nx.pub == 0) = false := by simp [hp]
                have KR : Hid (∀ m, Calls Tryz.prog 105 #[.slice ua nx.un.length uc, .int .i64 (i : Int)] (wr.drewN m) fun e w' => ∃ r, e = .returned r ∧ Ints (wr.drewN m).heap.size w' r (rsU (i : Int) nx.un) ∧ Below (wr.drewN m).heap.size (wr.drewN m) w') := fun m => rrising_any ((unhide HIU).nums.bw (below_drewN (Below.refl _ _) m)) (i : Int) (by omega)
                have HZ : Hid (∀ m w9 r, Below (wr.drewN m).heap.size (wr.drewN m) w9 → Ints (wr.drewN m).heap.size w9 r (rsU (i : Int) nx.un) → (w9.cell? ⟨g, x * 4 + 3, none⟩ = some (.slice ua nx.un.length uc) ∧ w9.frozen? ⟨g, x * 4 + 3, none⟩ = false) ∧ DX W0 (w9.setCell ⟨g, x * 4 + 3, none⟩ r) nb g mn mc (onAll (addU (i : Nat)) (U.take (j + 1)) T1) (us'.set x r) ∧ Ints W4b.heap.size (w9.setCell ⟨g, x * 4 + 3, none⟩ r) (.slice (some ⟨gu, ou, none⟩) M rc) (U.map (fun (x : Nat) => (x : Int)))) := fun m w9 r b9 hr9 => by
                  have bb : Below wr.heap.size wr w9 := (below_drewN (Below.refl _ _) m).trans b9
                  have hD9 := (unhide hDX).bw bb
                  obtain ⟨u', hu', hc', hf'⟩ := hD9.at (unhide HXL)
                  have hglt := lt_of_cell hc'.c3
                  refine ⟨⟨?_, hf' _⟩, ?_, ?_⟩
                  · rw [bb.cell (p := ⟨g, x * 4 + 3, none⟩) (lt_of_cell z3)]; exact z3
                  · have hsz9 : W0.heap.size ≤ (wr.drewN m).heap.size := by
                      have q : (wr.drewN m).heap.size = wr.heap.size := by simp
                      have := (unhide hDX).bel.size
                      omega
                    have hr0 : Ints W0.heap.size w9 r (rsU (i : Int) nx.un) := hr9.mono hsz9
                    have := hD9.setU (unhide HXL) (u' := r) hr0 (Or.inr (fun q hq c => by
                      have q1 := (World.ownsRow.lt hr9 q hq).1
                      have q2 := ((unhide hDX).tr.blocksC q c).2
                      have q3 : (wr.drewN m).heap.size = wr.heap.size := by simp
                      omega))
                    rw [unhide HND] at this
                    rw [unhide hsn, addU_rs hp hU1]
                    exact this
                  · have h9 := (unhide hRV).bw bb
                    exact own_keep h9 (fun q hq => Below.heap_setCell _ _ _ _ (by simp; rintro rfl; exact own_apart h9 hD9.tr.row (show (3 : Nat) ≠ 59 by decide) hq rfl))
                generalize hnl : nx.un.length = nl at *
                generalize nx.pub = px at *
                clear hp hU1 hsn HND HIU hDX hRV hU2 hnl
                go_wp2_with fail
                go_quiet (fail)
                go_wp2_with fail
                refine (unhide KR _).mono ?_
                rintro e w9 ⟨r, rfl, hr9, b9⟩
                obtain ⟨⟨h91, h92⟩, h93⟩ := unhide HZ _ w9 r b9 hr9
                obtain ⟨r9a, r9c, hr9e⟩ := own_slice hr9
                subst hr9e
                have HZ9 := hide h93
                clear hr9 b9 h93 HZ KR z0 z3
                go_wp2_with fail
                go_roundw
                case rel => exact ⟨j + 1, _, by go_num, by omega, (unhide HZ9).1, (unhide HZ9).2⟩
                case measure => simp [intOf]; omega
            · obtain rfl : j = M := by omega
              have e9 : U.take j = U := List.take_of_length_le (by have := unhide HM; omega)
              rw [e9, ← unhide HADD] at hDX
              have cN := (unhide hDX).cell
              obtain ⟨-, -, ⟨cR, fR⟩, cW⟩ := unhide HB _ (unhide hDX).bel
              have HS := unhide HS0
              have HF : Hid (OTr w.heap.size (wr.setCell ⟨w.heap.size + 1 + 1, 0, none⟩ (.slice (some ⟨g, 0, none⟩) mn mc)) (.slice (some ⟨g, 0, none⟩) mn mc) (addT T mm ee pp) us' ∧ Below w.heap.size w (wr.setCell ⟨w.heap.size + 1 + 1, 0, none⟩ (.slice (some ⟨g, 0, none⟩) mn mc))) :=
                ⟨((unhide hDX).tr.keepB (fun k hk => Below.heap_setCell _ _ _ _ (by simp; omega))).mono (by omega), cW.setCell (by simp; omega) _⟩
              have cZ : (wr.setCell ⟨w.heap.size + 1 + 1, 0, none⟩ (.slice (some ⟨g, 0, none⟩) mn mc)).cell? ⟨w.heap.size + 1 + 1, 0, none⟩ = some (.slice (some ⟨g, 0, none⟩) mn mc) := cell_set_same cR _
              clear hDX HS cW
              go_wp2_with fail
              generalize wr.setCell ⟨w.heap.size + 1 + 1, 0, none⟩ (.slice (some ⟨g, 0, none⟩) mn mc) = WZ at *
              exact bodyPost_ret (v := .tuple #[.agg #[.slice (some ⟨g, 0, none⟩) mn mc], .int .i64 (i : Int), .int .i64 0]) (by simp [results, Tryz.results60, go_sem, cZ]) rfl ⟨_, _, by first | rfl | rw [unhide HI], (unhide HF).1, (unhide HF).2⟩
end Go.Proofs.YtpcpcgagiapinaaGreatDoor

/- The contracts of the document's Add, whatever comes of it, and of New. -/
namespace Go.Proofs.YtpcpcgagiapinaaGreatDoor
open Go.RowKit Go.Maps
set_option maxRecDepth 100000 in
set_option maxHeartbeats 4000000 in
theorem radd_err {w : World} {v : Value} {T : List Nd} (h : Trd w v T) (mm ee pp : Int) (hE : addE T mm ee pp ≠ 0) :
    Calls Tryz.prog 60 #[.agg #[v], .agg #[.int .i64 mm, .int .i64 ee, .int .i64 pp]] w fun e w' => e = .returned (.tuple #[.agg #[.slice none 0 0], .int .i64 0, .int .i64 (addE T mm ee pp)]) ∧ Below w.heap.size w w' := by
  obtain ⟨W0, hW0⟩ : ∃ W0, W0 = ((bxw w v).alloc (.cells #[.int .i64 mm, .int .i64 ee, .int .i64 pp] 121)).alloc (.cells #[.slice none 0 0] 44) := ⟨_, rfl⟩
  have hb0 : Below w.heap.size w W0 := by rw [hW0]; exact ((bwA _ _).alloc (by simp) _).alloc (by simp; omega) _
  have hs0 : W0.heap.size = w.heap.size + 3 := by rw [hW0]; simp
  have HB : Hid (∀ W, Below W0.heap.size W0 W → W.cell? ⟨w.heap.size, 0, none⟩ = some v ∧ (W.cell? ⟨w.heap.size + 1, 0, none⟩ = some (.int .i64 mm) ∧ W.cell? ⟨w.heap.size + 1, 1, none⟩ = some (.int .i64 ee) ∧ W.cell? ⟨w.heap.size + 1, 2, none⟩ = some (.int .i64 pp)) ∧ (W.cell? ⟨w.heap.size + 1 + 1, 0, none⟩ = some (.slice none 0 0) ∧ W.frozen? ⟨w.heap.size + 1 + 1, 0, none⟩ = false ∧ (W.setCell ⟨w.heap.size + 1 + 1, 0, none⟩ (.slice none 0 0)).cell? ⟨w.heap.size + 1 + 1, 0, none⟩ = some (.slice none 0 0)) ∧ Below w.heap.size w W) := fun W hW => by
    have e0 : W.heap[w.heap.size]? = some (.cells #[v] 44 (0, 0)) := by
      rw [hW.block _ (by omega), hW0, Below.heap_alloc _ _ _ (by simp; omega), Below.heap_alloc _ _ _ (by simp)]; exact heap_alloc_new _ _
    have e1 : W.heap[w.heap.size + 1]? = some (.cells #[.int .i64 mm, .int .i64 ee, .int .i64 pp] 121 (0, 0)) := by
      rw [hW.block _ (by omega), hW0, Below.heap_alloc _ _ _ (by simp)]
      have := heap_alloc_new (bxw w v) (.cells #[.int .i64 mm, .int .i64 ee, .int .i64 pp] 121)
      simpa using this
    have e2 : W.heap[w.heap.size + 1 + 1]? = some (.cells #[.slice none 0 0] 44 (0, 0)) := by
      rw [hW.block _ (by omega), hW0]
      have := heap_alloc_new ((bxw w v).alloc (.cells #[.int .i64 mm, .int .i64 ee, .int .i64 pp] 121)) (.cells #[.slice none 0 0] 44)
      simpa using this
    exact ⟨cell_of_blk e0 rfl, ⟨cell_of_blk e1 rfl, cell_of_blk e1 rfl, cell_of_blk e1 rfl⟩, ⟨cell_of_blk e2 rfl, by simp [World.frozen?, e2], cell_set_same (cell_of_blk e2 rfl) _⟩, bw_tr hb0 hW⟩
  have KM : Hid (∀ W, Below w.heap.size w W → Calls Tryz.prog 54 #[.agg #[v]] W fun e w' => e = .returned (.int .i64 (if mayB T = true then 0 else 1)) ∧ Below W.heap.size W w') := fun W hW => rcheck_any (h.bw hW)
  have KF : Hid (mayB T = true → ∀ W, Below w.heap.size w W → Calls Tryz.prog 102 #[.agg #[v], .int .i64 mm] W fun e w' => e = .returned (.int .i64 (fnd T mm)) ∧ Below W.heap.size W w') := fun q W hW => by have := rfind_any (h.bw hW) mm; rw [if_pos q] at this; exact this
  have KB : Hid (mayB T = true → fb T = 8 → ∀ W, Below w.heap.size w W → Calls Tryz.prog 104 #[.agg #[v]] W fun e w' => e = .returned (.int .i64 (-1)) ∧ Below W.heap.size W w') := fun q h8 W hW => by
    have := rfree_any (h.bw hW) (mayB_15 q).1
    rw [if_neg (by have := fb_le T; have := (mayB_15 q).2; omega)] at this
    exact this
  have KL : Hid (mayB T = true → fb T = 8 → ∀ W, Below w.heap.size w W → Calls Tryz.prog 97 #[.agg #[v]] W fun e w' => e = .returned (.int .i64 8) ∧ Below W.heap.size W w') := fun q h8 W hW => by
    obtain ⟨a, c, rfl⟩ := h.slice
    have := rleaves_any a T.length c W h.len
    have e8 : rlv T.length = 8 := by
      have h1 := fb_le T
      have h2 := (mayB_15 q).2
      rcases mayB_wd q with e | hw
      · have h0 : nlv T = 0 := by rw [e]; rfl
        omega
      · obtain ⟨g1, g2, -⟩ := hw.facts
        have h3 := rlv_of g1
        rw [← g2] at h3
        omega
    rw [e8] at this
    exact this
  have KTw : Hid (mayB T = true → ∀ W, Below w.heap.size w W → Calls Tryz.prog 103 #[.agg #[v]] W fun e w' => ∃ r us, e = .returned (.agg #[r]) ∧ OTr W.heap.size w' r T us ∧ Below W.heap.size W w') := fun q W hW => rtwin_any (h.bw hW) (mayB_15 q).1 (fun x hx => by have := un_len q x hx; omega)
  have HW : Hid (W0 = ((w.alloc (.cells #[v] 44)).alloc (.cells #[.int .i64 mm, .int .i64 ee, .int .i64 pp] 121)).alloc (.cells #[.slice none 0 0] 44)) := hW0
  obtain ⟨E, hEE⟩ : ∃ E, E = addE T mm ee pp := ⟨_, rfl⟩
  rw [← hEE] at hE ⊢
  unfold addE at hEE
  have HE := hide hEE
  have HE0 := hide hE
  have HBS : Hid (∀ W, Below W0.heap.size W0 W → Below w.heap.size w (W.setCell ⟨w.heap.size + 1 + 1, 0, none⟩ (.slice none 0 0))) := fun W hW => (unhide HB _ hW).2.2.2.setCell (by simp; omega) _
  clear h hEE hE hW0 hs0
  generalize hp : mayB T = p at *
  clear hp
  generalize fnd T mm = fm at *
  generalize fb T = ib at *
  cases p
  · obtain rfl : E = 1 := by rw [unhide HE]; simp
    clear KF KB KL KTw HE
    go_enter Tryz.func60, Tryz.ntmps60
    go_wp2_with fail
    rw [← unhide HW]
    refine (unhide KM _ hb0).mono ?_
    rintro e W1 ⟨rfl, b1⟩
    obtain ⟨c0, ⟨c1, c2, c3⟩, ⟨c4, c5, c6⟩, hw1⟩ := unhide HB _ b1
    have c7 := unhide HBS _ b1
    clear KM HW
    go_wp2
    generalize W1.setCell ⟨w.heap.size + 1 + 1, 0, none⟩ (.slice none 0 0) = WZ at *
    exact bodyPost_ret (v := .tuple #[.agg #[.slice none 0 0], .int .i64 0, .int .i64 1]) (by simp [results, Tryz.results60, go_sem, c6]) rfl ⟨rfl, c7⟩
  · have KF2 := hide (unhide KF rfl)
    have KB2 := hide (unhide KB rfl)
    have KL2 := hide (unhide KL rfl)
    have KT2 := hide (unhide KTw rfl)
    clear KF KB KL KTw
    have hbad : (mm < 0 ∨ ee < 0 ∨ pp < 1) → E = 1 := fun q => by rw [unhide HE]; simp [q]
    by_cases n1 : mm < 0
    · obtain rfl := hbad (Or.inl n1)
      clear HE hbad
      go_enter Tryz.func60, Tryz.ntmps60
      go_wp2_with fail
      rw [← unhide HW]
      refine (unhide KM _ hb0).mono ?_
      rintro e W1 ⟨rfl, b1⟩
      obtain ⟨c0, ⟨c1, c2, c3⟩, ⟨c4, c5, c6⟩, hw1⟩ := unhide HB _ b1
      have c7 := unhide HBS _ b1
      clear KM HW
      go_wp2
      generalize W1.setCell ⟨w.heap.size + 1 + 1, 0, none⟩ (.slice none 0 0) = WZ at *
      exact bodyPost_ret (v := .tuple #[.agg #[.slice none 0 0], .int .i64 0, .int .i64 1]) (by simp [results, Tryz.results60, go_sem, c6]) rfl ⟨rfl, c7⟩
    · have n1' : decide (mm < 0) = false := decide_eq_false n1
      by_cases n2 : ee < 0
      · obtain rfl := hbad (Or.inr (Or.inl n2))
        clear HE hbad
        go_enter Tryz.func60, Tryz.ntmps60
        go_wp2_with fail
        rw [← unhide HW]
        refine (unhide KM _ hb0).mono ?_
        rintro e W1 ⟨rfl, b1⟩
        obtain ⟨c0, ⟨c1, c2, c3⟩, ⟨c4, c5, c6⟩, hw1⟩ := unhide HB _ b1
        have c7 := unhide HBS _ b1
        clear KM HW
        go_wp2
        generalize W1.setCell ⟨w.heap.size + 1 + 1, 0, none⟩ (.slice none 0 0) = WZ at *
        exact bodyPost_ret (v := .tuple #[.agg #[.slice none 0 0], .int .i64 0, .int .i64 1]) (by simp [results, Tryz.results60, go_sem, c6]) rfl ⟨rfl, c7⟩
      · have n2' : decide (ee < 0) = false := decide_eq_false n2
        by_cases n3 : pp < 1
        · obtain rfl := hbad (Or.inr (Or.inr n3))
          clear HE hbad
          go_enter Tryz.func60, Tryz.ntmps60
          go_wp2_with fail
          rw [← unhide HW]
          refine (unhide KM _ hb0).mono ?_
          rintro e W1 ⟨rfl, b1⟩
          obtain ⟨c0, ⟨c1, c2, c3⟩, ⟨c4, c5, c6⟩, hw1⟩ := unhide HB _ b1
          have c7 := unhide HBS _ b1
          clear KM HW
          go_wp2
          generalize W1.setCell ⟨w.heap.size + 1 + 1, 0, none⟩ (.slice none 0 0) = WZ at *
          exact bodyPost_ret (v := .tuple #[.agg #[.slice none 0 0], .int .i64 0, .int .i64 1]) (by simp [results, Tryz.results60, go_sem, c6]) rfl ⟨rfl, c7⟩
        · have n3' : decide (pp < 1) = false := decide_eq_false n3
          have HE2 : Hid (E = if 0 ≤ fm then 13 else if ib = 8 then 3 else 0) := by unfold Hid; rw [unhide HE, if_neg (by simp; omega)]
          clear HE hbad
          by_cases n4 : 0 ≤ fm
          · obtain rfl : E = 13 := by rw [unhide HE2, if_pos n4]
            clear HE2
            go_enter Tryz.func60, Tryz.ntmps60
            go_wp2_with fail
            rw [← unhide HW]
            refine (unhide KM _ hb0).mono ?_
            rintro e W1 ⟨rfl, b1⟩
            obtain ⟨c0, ⟨c1, c2, c3⟩, -, hw1⟩ := unhide HB _ b1
            clear KM HW
            go_wp2_with fail
            refine (unhide KF2 _ hw1).mono ?_
            rintro e W2 ⟨rfl, b2⟩
            have b3 := bw_tr b1 b2
            clear c0 c1 c2 c3
            obtain ⟨c0, -, ⟨c4, c5, c6⟩, hw3⟩ := unhide HB _ b3
            have c7 := unhide HBS _ b3
            go_wp2
            generalize W2.setCell ⟨w.heap.size + 1 + 1, 0, none⟩ (.slice none 0 0) = WZ at *
            exact bodyPost_ret (v := .tuple #[.agg #[.slice none 0 0], .int .i64 0, .int .i64 13]) (by simp [results, Tryz.results60, go_sem, c6]) rfl ⟨rfl, c7⟩
          · have n4' : decide (0 ≤ fm) = false := decide_eq_false n4
            have h8 : ib = 8 := by
              apply Decidable.byContradiction; intro c
              exact unhide HE0 (by rw [unhide HE2, if_neg n4, if_neg c])
            obtain rfl : E = 3 := by rw [unhide HE2, if_neg n4, if_pos h8]
            have KB3 := hide (unhide KB2 h8)
            have KL3 := hide (unhide KL2 h8)
            clear HE2 KB2 KL2 h8
            go_enter Tryz.func60, Tryz.ntmps60
            go_wp2_with fail
            rw [← unhide HW]
            refine (unhide KM _ hb0).mono ?_
            rintro e W1 ⟨rfl, b1⟩
            obtain ⟨c0, ⟨c1, c2, c3⟩, -, hw1⟩ := unhide HB _ b1
            clear KM HW
            go_wp2_with fail
            refine (unhide KF2 _ hw1).mono ?_
            rintro e W2 ⟨rfl, b2⟩
            have b3 := bw_tr b1 b2
            clear c0 c1 c2 c3
            obtain ⟨c0, -, -, hw3⟩ := unhide HB _ b3
            go_wp2_with fail
            refine (unhide KT2 _ hw3).mono ?_
            rintro e W3 ⟨r, us, rfl, hO, b4⟩
            have b5 := bw_tr b3 b4
            obtain ⟨ra, rc, hre⟩ := own_slice hO.row
            subst hre
            obtain ⟨WX, hWX⟩ : ∃ WX, WX = W3.alloc (.cells #[.slice ra T.length rc] 44) := ⟨_, rfl⟩
            have HWX := hide hWX
            have b6 : Below W0.heap.size W0 WX := by rw [hWX]; exact b5.alloc b5.size _
            clear c0 hO b4 b5 hWX
            obtain ⟨c0, -, -, hw6⟩ := unhide HB _ b6
            go_upto_region 6 with fail
            rw [← unhide HWX]
            clear HWX
            go_wp2_with fail
            refine (unhide KB3 _ hw6).mono ?_
            rintro e W7 ⟨rfl, b7⟩
            have b8 := bw_tr b6 b7
            clear c0
            obtain ⟨c0, -, -, hw8⟩ := unhide HB _ b8
            go_wp2_with fail
            refine (unhide KL3 _ hw8).mono ?_
            rintro e W9 ⟨rfl, b9⟩
            have b10 := bw_tr b8 b9
            clear c0
            obtain ⟨c0, -, ⟨c4, c5, c6⟩, hw10⟩ := unhide HB _ b10
            have c7 := unhide HBS _ b10
            go_wp2
            generalize W9.setCell ⟨w.heap.size + 1 + 1, 0, none⟩ (.slice none 0 0) = WZ at *
            exact bodyPost_ret (v := .tuple #[.agg #[.slice none 0 0], .int .i64 0, .int .i64 3]) (by simp [results, Tryz.results60, go_sem, c6]) rfl ⟨rfl, c7⟩
theorem radd_any {w : World} {v : Value} {T : List Nd} (h : Trd w v T) (mm ee pp : Int) :
    Calls Tryz.prog 60 #[.agg #[v], .agg #[.int .i64 mm, .int .i64 ee, .int .i64 pp]] w fun e w' => ∃ r us, e = .returned (.tuple #[.agg #[r], .int .i64 (addA T mm ee pp : Nat), .int .i64 (addE T mm ee pp)]) ∧ OTr w.heap.size w' r (addR T mm ee pp) us ∧ Below w.heap.size w w' := by
  by_cases hE : addE T mm ee pp = 0
  · refine (radd_ok h mm ee pp hE).mono ?_
    rintro e w' ⟨r, us, h1, h2, h3⟩
    refine ⟨r, us, ?_, ?_, h3⟩
    · rw [h1, hE]; unfold addA; rw [if_pos hE]
    · unfold addR; rw [if_pos hE]; exact h2
  · refine (radd_err h mm ee pp hE).mono ?_
    rintro e w' ⟨h1, h3⟩
    refine ⟨.slice none 0 0, [], ?_, ?_, h3⟩
    · rw [h1]; unfold addA; rw [if_neg hE]; rfl
    · unfold addR; rw [if_neg hE]; exact otr_nil _ _
set_option maxRecDepth 100000 in
set_option maxHeartbeats 4000000 in
theorem rnew_any {w : World} (mm ee pp : Int) :
    Calls Tryz.prog 59 #[.agg #[.int .i64 mm, .int .i64 ee, .int .i64 pp]] w fun e w' => ∃ r us, e = .returned (.tuple #[.agg #[r], .int .i64 (addE [] mm ee pp)]) ∧ OTr w.heap.size w' r (addR [] mm ee pp) us ∧ Below w.heap.size w w' := by
  obtain ⟨W0, hW0⟩ : ∃ W0, W0 = (w.alloc (.cells #[.int .i64 mm, .int .i64 ee, .int .i64 pp] 121)).alloc (.cells #[.slice none 0 0] 44) := ⟨_, rfl⟩
  have hb0 : Below w.heap.size w W0 := by rw [hW0]; exact (bwA _ _).alloc (by simp) _
  have hs0 : W0.heap.size = w.heap.size + 2 := by rw [hW0]; simp
  have HB : Hid (∀ W, Below W0.heap.size W0 W → (W.cell? ⟨w.heap.size + 1, 0, none⟩ = some (.slice none 0 0) ∧ W.frozen? ⟨w.heap.size + 1, 0, none⟩ = false) ∧ Below w.heap.size w W) := fun W hW => by
    have e2 : W.heap[w.heap.size + 1]? = some (.cells #[.slice none 0 0] 44 (0, 0)) := by
      rw [hW.block _ (by omega), hW0]
      have := heap_alloc_new (w.alloc (.cells #[.int .i64 mm, .int .i64 ee, .int .i64 pp] 121)) (.cells #[.slice none 0 0] 44)
      simpa using this
    exact ⟨⟨cell_of_blk e2 rfl, by simp [World.frozen?, e2]⟩, bw_tr hb0 hW⟩
  have KA := hide (radd_any (trd_nil W0) mm ee pp)
  have HW : Hid (W0 = (w.alloc (.cells #[.int .i64 mm, .int .i64 ee, .int .i64 pp] 121)).alloc (.cells #[.slice none 0 0] 44)) := hW0
  generalize addE [] mm ee pp = E at *
  generalize addR [] mm ee pp = R at *
  generalize addA [] mm ee pp = A at *
  clear hW0
  go_enter Tryz.func59, Tryz.ntmps59
  go_wp2_with fail
  rw [← unhide HW]
  refine (unhide KA).mono ?_
  rintro e W1 ⟨r, us, rfl, hO, b1⟩
  obtain ⟨ra, rc, rfl⟩ := own_slice hO.row
  obtain ⟨⟨c1, c2⟩, c3⟩ := unhide HB _ (b1.alloc b1.size (.cells #[.slice ra R.length rc] 44))
  have HF : Hid (OTr w.heap.size ((W1.alloc (.cells #[.slice ra R.length rc] 44)).setCell ⟨w.heap.size + 1, 0, none⟩ (.slice ra R.length rc)) (.slice ra R.length rc) R us ∧ Below w.heap.size w ((W1.alloc (.cells #[.slice ra R.length rc] 44)).setCell ⟨w.heap.size + 1, 0, none⟩ (.slice ra R.length rc))) :=
    ⟨((hO.bw (bwA _ _)).keepB (fun k hk => Below.heap_setCell _ _ _ _ (by simp; omega))).mono (by omega), c3.setCell (by simp) _⟩
  have cZ : ((W1.alloc (.cells #[.slice ra R.length rc] 44)).setCell ⟨w.heap.size + 1, 0, none⟩ (.slice ra R.length rc)).cell? ⟨w.heap.size + 1, 0, none⟩ = some (.slice ra R.length rc) := cell_set_same c1 _
  generalize R.length = RL at *
  clear hO KA HW HB hs0
  go_wp2_with fail
  generalize (W1.alloc (.cells #[.slice ra RL rc] 44)).setCell ⟨w.heap.size + 1, 0, none⟩ (.slice ra RL rc) = WZ at *
  exact bodyPost_ret (v := .tuple #[.agg #[.slice ra RL rc], .int .i64 E]) (by simp [results, Tryz.results59, go_sem, cZ]) rfl ⟨_, _, rfl, (unhide HF).1, (unhide HF).2⟩
end Go.Proofs.YtpcpcgagiapinaaGreatDoor
