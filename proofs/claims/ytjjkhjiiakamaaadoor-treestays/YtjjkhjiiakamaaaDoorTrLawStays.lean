/- TreeStays, the walk. -/
import Derived.Test.YtjjkhjiiakamaaaDoorTrYs
import Derived.Test.YtjjkhjiiakamaaaDoorTrZ
namespace Go.Proofs.YtjjkhjiiakamaaaDoor
open Go.RowKit Go.Maps

def hun (k : Nat) : List Int := (List.range k).map fun (j : Nat) => 100 + (j : Int)
theorem hun_len (k : Nat) : (hun k).length = k := by simp [hun]
theorem hun_succ (k : Nat) : hun (k + 1) = hun k ++ [100 + (k : Int)] := by unfold hun; rw [List.range_succ]; simp
theorem hun_ge (k : Nat) : ∀ q ∈ hun k, 1 ≤ q := fun q hq => by unfold hun at hq; obtain ⟨j, _, rfl⟩ := List.mem_map.1 hq; omega
theorem box_put {z : World} {nb : Nat} {v v' : Value} {t : TypeId} (k : z.heap[nb]? = some (.cells #[v] t (0, 0))) : (z.setCell ⟨nb, 0, none⟩ v').heap[nb]? = some (.cells #[v'] t (0, 0)) := by simp [World.setCell, Array.getElem?_modify, k]
set_option maxRecDepth 100000 in
set_option maxHeartbeats 8000000 in
theorem TreeStays_walk (w : World) (v : Value) (T : List Nd) (h : Trd w v T) (hT : Tab w) (mm ee pp mq li : Int) :
    Calls Tryd.prog 3 #[.agg #[v], .agg #[.int .i64 mm, .int .i64 ee,   .int .i64 pp], .int .i64 mq, .int .i64 li] w fun e w' => e = .returned (.bool true) ∧ Below w.heap.size w w' := by
  obtain ⟨a, c, rfl⟩ := h.slice
  obtain ⟨W0, hW0⟩ : ∃ W0, W0 = (bxw w (.slice a T.length c)).alloc (.cells #[.int .i64 mm, .int .i64 ee, .int .i64 pp] 26) := ⟨_, rfl⟩
  have hb0 : Below w.heap.size w W0 := by rw [hW0]; exact (bwA _ _).alloc (by simp) _
  have HB : Hid (∀ W, Below W0.heap.size W0 W → W.cell? ⟨w.heap.size, 0, none⟩ = some (.slice a T.length c) ∧ (W.cell? ⟨w.heap.size + 1, 0, none⟩ = some (.int .i64 mm) ∧ W.cell? ⟨w.heap.size + 1, 1, none⟩ = some (.int .i64 ee) ∧ W.cell? ⟨w.heap.size + 1, 2, none⟩ = some (.int .i64 pp)) ∧ Below w.heap.size w W) := fun W hW => by
    have hbb := bw_tr hb0 hW
    subst hW0
    obtain ⟨h1, h2⟩ := bx2_cellZ hW
    exact ⟨h1, ⟨cell_of_blk h2 rfl, cell_of_blk h2 rfl, cell_of_blk h2 rfl⟩, hbb⟩
  have HH : Hid (∀ W, Below w.heap.size w W → Trd W (.slice a T.length c) T ∧ Tab W) := fun W hW => ⟨h.bw hW, hT.bw hW⟩
  have KE : Hid (∀ W, Below w.heap.size w W → Calls Tryd.prog 11 #[] W fun e w' => e = .returned (.bool true) ∧ Below W.heap.size W w') := fun W hW => alive8 W (hT.bw hW)
  have KT := hide (treeSize_any (h.bw hb0))
  have HW : Hid (W0 = (w.alloc (.cells #[.slice a T.length c] 24)).alloc (.cells #[.int .i64 mm, .int .i64 ee, .int .i64 pp] 26)) := hW0
  have HTL : Hid (0 < T.length → ∃ b o, a = some ⟨b, o, none⟩ ∧ ∀ w', Below w.heap.size w w' → ∀ i, i < T.length → ∃ u, NdC w' b (o + i * 4) (ndAt T i) u ∧ Nums w' u (ndAt T i).un) := h.at.2
  clear h hT hW0
  obtain ⟨N, hN⟩ : ∃ N, N = T.length := ⟨_, rfl⟩
  rw [← hN] at HB HH KT HW ⊢
  have HN := hide hN
  clear hN
  go_enter Tryd.func3, Tryd.ntmps3
  go_wp2_with fail
  rw [← unhide HW]
  refine (unhide KT).mono ?_
  rintro e W1 ⟨n, rfl, hn, b1⟩
  have b2 : Below W0.heap.size W0 (W1.alloc (.cells #[.int .i64 (n : Int)] 3)) := b1.alloc b1.size _
  have KBy := hide (beyond8 W1.heap.size n 1 (W1.alloc (.cells #[.int .i64 (n : Int)] 3)) hn (cell_of_blk (heap_alloc_new W1 _) rfl))
  obtain ⟨W2, hW2⟩ : ∃ W2, W2 = W1.alloc (.cells #[.int .i64 (n : Int)] 3) := ⟨_, rfl⟩
  rw [← hW2] at KBy b2
  have HW2 := hide hW2
  clear hW2 KT HW hn b1
  generalize decide (262144 < n) = by_ at *
  obtain ⟨c0, ⟨d0, d1, d2⟩, hbw⟩ := unhide HB _ b2
  go_wp2_with fail
  rw [← unhide HW2]
  refine (unhide KBy).mono ?_
  rintro e W2 ⟨rfl, rfl⟩
  clear KBy HW2
  cases by_
  rotate_left
  · have KE2 := hide (unhide KE _ hbw)
    go_wp2_with fail
    refine (unhide KE2).mono ?_
    rintro e W9 ⟨rfl, b9⟩
    go_wp2
    go_ret
    exact ⟨rfl, bw_tr hbw b9⟩
  have KCk := hide (check_any (unhide HH _ hbw).1 (unhide HH _ hbw).2)
  cases hm : mayB T
  · rw [hm] at KCk
    go_wp2_with fail
    refine (unhide KCk).mono ?_
    rintro e W3 ⟨rfl, b3⟩
    have KE2 := hide (unhide KE _ (bw_tr hbw b3))
    clear KCk
    go_wp2_with fail
    refine (unhide KE2).mono ?_
    rintro e W9 ⟨rfl, b9⟩
    go_wp2
    go_ret
    exact ⟨rfl, bw_tr (bw_tr hbw b3) b9⟩
  rw [hm] at KCk
  have HM := hide hm
  clear hm
  go_wp2_with fail
  refine (unhide KCk).mono ?_
  rintro e W3 ⟨rfl, b3⟩
  have b4 := bw_tr b2 b3
  clear KCk c0 d0 d1 d2 hbw b2 b3
  obtain ⟨c0, ⟨d0, d1, d2⟩, hbw⟩ := unhide HB _ b4
  have KM := hide (membersX_any (unhide HH _ hbw).1 (unhide HH _ hbw).2)
  rw [unhide HM, if_pos rfl] at KM
  obtain ⟨ML, hML⟩ : ∃ ML, ML = (mems T).length := ⟨_, rfl⟩
  have HML := hide hML
  have hML8 : (ML : Int) ≤ 8 := by
    have := memsOf_len (lvs T); rw [lvs_len] at this
    have := (mayB_15 (unhide HM)).2
    unfold mems at hML; omega
  go_wp2_with fail
  refine (unhide KM).mono ?_
  rintro e W4 ⟨wv, rfl, hwv, b5⟩
  have hwn := hwv.nums
  obtain ⟨wa, wc0, hwe⟩ := own_slice hwv
  rw [← hML] at hwe
  subst hwe
  have b6 := bw_tr b4 b5
  clear KM c0 d0 d1 d2 hbw b4 b5 hML hwv
  obtain ⟨c0, ⟨d0, d1, d2⟩, hbw⟩ := unhide HB _ b6
  have KA := hide (add_any (unhide HH _ hbw).1 (unhide HH _ hbw).2 mm ee pp)
  obtain ⟨E1, hE1⟩ : ∃ E1, E1 = addE T mm ee pp := ⟨_, rfl⟩
  obtain ⟨AA, hAA⟩ : ∃ AA, AA = addA T mm ee pp := ⟨_, rfl⟩
  rw [← hE1, ← hAA] at KA
  have HE1 := hide hE1
  have HAA := hide hAA
  clear hE1 hAA
  go_wp2_with fail
  refine (unhide KA).mono ?_
  rintro e W5 ⟨rr, us, rfl, hO, b7⟩
  have b8 := bw_tr b6 b7
  have hwn := hwn.bw b7
  clear KA c0 d0 d1 d2 hbw b6 b7
  obtain ⟨ra, rc, hre⟩ := own_slice hO.row
  subst hre
  obtain ⟨M, hM⟩ : ∃ M, M = (addR T mm ee pp).length := ⟨_, rfl⟩
  rw [← hM] at hO ⊢
  have HB5 : Hid (∀ W, Below W5.heap.size W5 W → W.cell? ⟨w.heap.size, 0, none⟩ = some (.slice a N c) ∧ (W.cell? ⟨w.heap.size + 1, 0, none⟩ = some (.int .i64 mm) ∧ W.cell? ⟨w.heap.size + 1, 1, none⟩ = some (.int .i64 ee) ∧ W.cell? ⟨w.heap.size + 1, 2, none⟩ = some (.int .i64 pp)) ∧ Nums W (.slice wa ML wc0) (mems T) ∧ Below w.heap.size w W) := fun W hW => by
    obtain ⟨x1, x2, x3⟩ := unhide HB _ (bw_tr b8 hW)
    exact ⟨x1, x2, hwn.bw hW, x3⟩
  have HO := hide hO
  clear hM hO hwn b8 HB
  obtain ⟨WX, hWX⟩ : ∃ WX, WX = W5.alloc (.cells #[.slice ra M rc] 24) := ⟨_, rfl⟩
  have bX : Below W5.heap.size W5 WX := by rw [hWX]; exact bwA _ _
  have HX : Hid (∀ W, Below WX.heap.size WX W → W.cell? ⟨W5.heap.size, 0, none⟩ = some (.slice ra M rc) ∧ Below W5.heap.size W5 W) := fun W hW => ⟨by subst hWX; exact bx_cell hW, bw_tr bX hW⟩
  have HXb : Hid (∀ W, Below WX.heap.size WX W → W.heap[W5.heap.size]? = some (.cells #[.slice ra M rc] 24 (0, 0))) := fun W hW => by subst hWX; exact new1 hW
  have HO2 : Hid (OTr 0 WX (.slice ra M rc) (addR T mm ee pp) us) := ((unhide HO).bw bX).mono (Nat.zero_le _)
  have HWX : Hid (WX = W5.alloc (.cells #[.slice ra M rc] 24)) := hWX
  clear hWX HO
  go_upto_if 41 with fail
  rw [← unhide HWX]
  go_cut [13, 14] from 42 to 87 (fun _ _ wx => Below WX.heap.size WX wx)
  case first =>
    by_cases hE : E1 = 0
    · have hrE := (unhide HE1).symm.trans hE
      have okA := ok_add hrE
      have hmA := okA.mayB
      have hRR : addR T mm ee pp = addT T mm ee pp := by unfold addR; rw [if_pos hrE]
      have hAf : AA = fb T := by rw [unhide HAA]; unfold addA; rw [if_pos hrE]
      have hfn := add_fnd hrE
      rw [← hAf] at hfn
      have hlen := add_mems hrE
      have HRM : Hid (0 < ML → remE (addT T mm ee pp) mm = 0 ∧ mems (remT (addT T mm ee pp) mm) = mems T) := fun h => add_rem hrE (fun hc => by have := unhide HML; rw [hc] at this; simp at this; omega)
      rw [hRR] at HO2
      have hAA8 : (AA : Int) ≤ 8 := by have := (add_leaves hrE).1; omega
      generalize addT T mm ee pp = A at *
      subst hE
      have hAt := (unhide HO2).trdM hmA
      have HTab : Hid (∀ W, Below WX.heap.size WX W → Tab W) := fun W hW => (unhide HH _ (unhide HB5 _ (unhide HX _ hW).2).2.2.2).2
      have KR := hide (rem_any hAt (unhide HTab _ (Below.refl _ _)) mm)
      have KC : Hid (∀ W, Below WX.heap.size WX W → Calls Tryd.prog 10 #[.agg #[.slice ra M rc]] W fun e w' => e = .returned (.int .i64 0) ∧ Below W.heap.size W w') := fun W hW => by
        have := check_any (hAt.bw hW) (unhide HTab _ hW); rw [hmA] at this; exact this
      have KF : Hid (∀ W, Below WX.heap.size WX W → Calls Tryd.prog 15 #[.agg #[.slice ra M rc], .int .i64 mm] W fun e w' => e = .returned (.int .i64 (AA : Int)) ∧ Below W.heap.size W w') := fun W hW => by
        have := findX_any (hAt.bw hW) (unhide HTab _ hW) mm; rw [hmA, if_pos rfl, hfn] at this; exact this
      have KM : Hid (∀ W, Below WX.heap.size WX W → Calls Tryd.prog 12 #[.agg #[.slice ra M rc]] W fun e w' => ∃ ma mc, e = .returned (.slice ma (ML + 1) mc) ∧ Below W.heap.size W w') := fun W hW => by
        have := membersX_any (hAt.bw hW) (unhide HTab _ hW); rw [hmA, if_pos rfl] at this
        refine this.mono ?_
        rintro e w' ⟨r, rfl, h1, h2⟩
        obtain ⟨ma, mc, rfl⟩ := own_slice h1
        exact ⟨ma, mc, by rw [hlen, ← unhide HML], h2⟩
      obtain ⟨E2, hE2⟩ : ∃ E2, E2 = remE A mm := ⟨_, rfl⟩
      rw [← hE2] at KR
      have HE2 := hide hE2
      clear hE2 hAt HO2 okA hmA hRR hAf hfn hlen hrE HE1 HAA
      obtain ⟨cX, bX5⟩ := unhide HX _ (Below.refl _ _)
      obtain ⟨cT, ⟨d0, d1, d2⟩, -, hbw⟩ := unhide HB5 _ bX5
      go_wp2_with fail
      refine (unhide KR).mono ?_
      rintro e W6 ⟨yr, us6, rfl, hO6, b6⟩
      obtain ⟨ya, yc, hye⟩ := own_slice hO6.row
      subst hye
      obtain ⟨MY, hMY⟩ : ∃ MY, MY = (remR A mm).length := ⟨_, rfl⟩
      rw [← hMY] at hO6 ⊢
      obtain ⟨WY, hWY⟩ : ∃ WY, WY = W6.alloc (.cells #[.slice ya MY yc] 24) := ⟨_, rfl⟩
      have bY : Below W6.heap.size W6 WY := by rw [hWY]; exact bwA _ _
      have belY := bw_tr b6 bY
      have HY : Hid (∀ W, Below WY.heap.size WY W → W.cell? ⟨W6.heap.size, 0, none⟩ = some (.slice ya MY yc) ∧ Below WX.heap.size WX W) := fun W hW => ⟨by subst hWY; exact bx_cell hW, bw_tr belY hW⟩
      have hO7 := hide (hO6.bw bY)
      have HWY : Hid (WY = W6.alloc (.cells #[.slice ya MY yc] 24)) := hWY
      clear KR hWY hO6 hMY cX cT d0 d1 d2 hbw bX5 b6
      obtain ⟨cX, bX5⟩ := unhide HX _ belY
      obtain ⟨cT, ⟨d0, d1, d2⟩, -, hbw⟩ := unhide HB5 _ bX5
      have K1 := hide (unhide KC _ belY)
      go_upto_region 7 with fail
      rw [← unhide HWY]
      go_wp2_with fail
      refine (unhide K1).mono ?_
      rintro e W7 ⟨rfl, b7⟩
      have bel7 := bw_tr belY b7
      clear K1 cX cT d0 d1 d2 hbw bX5 HWY
      obtain ⟨cX, bX5⟩ := unhide HX _ bel7
      obtain ⟨cT, ⟨d0, d1, d2⟩, -, hbw⟩ := unhide HB5 _ bX5
      have K1 := hide (unhide KF _ bel7)
      go_wp2_with fail
      refine (unhide K1).mono ?_
      rintro e W8 ⟨rfl, b8⟩
      have bel8 := bw_tr bel7 b8
      have bY8 := bw_tr b7 b8
      clear K1 cX cT d0 d1 d2 hbw bX5 bel7 b7 b8
      obtain ⟨cX, bX5⟩ := unhide HX _ bel8
      obtain ⟨cT, ⟨d0, d1, d2⟩, -, hbw⟩ := unhide HB5 _ bX5
      have K1 := hide (unhide KM _ bel8)
      go_wp2_with fail
      refine (unhide K1).mono ?_
      rintro e W9 ⟨ma, mc, rfl, b9⟩
      have bel9 := bw_tr bel8 b9
      have bY9 := bw_tr bY8 b9
      clear K1 cX cT d0 d1 d2 hbw bX5 bel8 bY8 b9
      rcases Nat.eq_zero_or_pos ML with h0 | h0
      · subst h0
        go_wp2_with fail
        go_meet
        case rel => exact bel9
      · obtain ⟨f1, f2⟩ := unhide HRM h0
        have hE20 : E2 = 0 := (unhide HE2).trans f1
        subst hE20
        have hrr : remR A mm = remT A mm := by unfold remR; rw [if_pos f1]
        have hO8 := unhide hO7
        rw [hrr] at hO8
        obtain ⟨_, _, _, hrm⟩ := rm_of f1
        have hmY := hrm.ok.mayB
        have hYt := hO8.trdM hmY
        have HTab9 := unhide HTab _ bel9
        have KC2 := hide (check_any (hYt.bw bY9) HTab9)
        rw [hmY] at KC2
        have KM2 : Hid (∀ W, Below WY.heap.size WY W → Calls Tryd.prog 12 #[.agg #[.slice ya MY yc]] W fun e w' => ∃ r, e = .returned r ∧ Nums w' r (mems T) ∧ Below W.heap.size W w') := fun W hW => by
          have := membersX_any (hYt.bw hW) (unhide HTab _ (bw_tr belY hW)); rw [hmY, if_pos rfl, f2] at this
          refine this.mono ?_
          rintro e w' ⟨r, rfl, h1, h2⟩
          exact ⟨r, rfl, h1.nums, h2⟩
        have h0' : (0 : Int) < (ML : Int) := by omega
        clear hYt hO8 hrm hmY hrr f1 f2 HTab9 hO7
        obtain ⟨cY, -⟩ := unhide HY _ bY9
        go_wp2_with fail
        refine (unhide KC2).mono ?_
        rintro e W10 ⟨rfl, b10⟩
        have bY10 := bw_tr bY9 b10
        clear KC2 cY
        obtain ⟨cY, -⟩ := unhide HY _ bY10
        have K1 := hide (unhide KM2 _ bY10)
        go_wp2_with fail
        refine (unhide K1).mono ?_
        rintro e W11 ⟨yv, rfl, hyv, b11⟩
        have bY11 := bw_tr bY10 b11
        clear K1 cY
        have K1 := hide (same_any _ _ _ _ _ hyv (unhide HB5 _ (unhide HX _ (unhide HY _ bY11).2).2).2.2.1)
        rw [decide_eq_true rfl] at K1
        obtain ⟨yva, yvc, hyve⟩ := nums_slice hyv
        subst hyve
        clear hyv
        go_wp2_with fail
        refine (unhide K1).mono ?_
        rintro e W12 ⟨rfl, b12⟩
        have belE := bw_tr (unhide HY _ bY11).2 b12
        go_wp2_with fail
        go_meet
        case rel => exact belE
    · have hE1 : (E1 == 0) = false := by simp [hE]
      go_wp2_with fail
      go_meet
      case rel => exact Below.refl _ _
  case rest =>
    have belC := hcut
    clear hcut HO2 HAA HE1 HWX
    obtain ⟨cX, bC5⟩ := unhide HX _ belC
    obtain ⟨cT, -, -, hbw⟩ := unhide HB5 _ bC5
    have KR := hide (rem_any (unhide HH _ hbw).1 (unhide HH _ hbw).2 mq)
    obtain ⟨E3, hE3⟩ : ∃ E3, E3 = remE T mq := ⟨_, rfl⟩
    rw [← hE3] at KR
    have HE3 := hide hE3
    have szC : W5.heap.size < wc.heap.size := lt_of_cell cX
    have HB13 : Hid (∀ W, Below wc.heap.size wc W → W.heap[W5.heap.size]? = some (.cells #[.slice ra M rc] 24 (0, 0))) := fun W hW => unhide HXb _ (bw_tr belC hW)
    clear hE3
    go_wp2_with fail
    refine (unhide KR).mono ?_
    rintro e W13 ⟨qr, us13, rfl, hO13, b13⟩
    obtain ⟨qa, qc, hqe⟩ := own_slice hO13.row
    subst hqe
    obtain ⟨MQ, hMQ⟩ : ∃ MQ, MQ = (remR T mq).length := ⟨_, rfl⟩
    rw [← hMQ] at hO13 ⊢
    have blk13 := unhide HB13 _ b13
    have cX13 : W13.cell? ⟨W5.heap.size, 0, none⟩ = some (.slice ra M rc) := cell_of_blk blk13 rfl
    have fX13 : W13.frozen? ⟨W5.heap.size, 0, none⟩ = false := frozen_of_blk blk13
    obtain ⟨WZ, hWZ⟩ : ∃ WZ, WZ = W13.setCell ⟨W5.heap.size, 0, none⟩ (.slice qa MQ qc) := ⟨_, rfl⟩
    have blkZ : WZ.heap[W5.heap.size]? = some (.cells #[.slice qa MQ qc] 24 (0, 0)) := by rw [hWZ]; exact box_put blk13
    have bZ5 : Below W5.heap.size W5 WZ := by rw [hWZ]; exact (bw_tr bC5 b13).setCell (Nat.le_refl _) _
    have HOZ : Hid (OTr wc.heap.size WZ (.slice qa MQ qc) (remR T mq) us13) := by unfold Hid; rw [hWZ]; exact hO13.keepB (fun k hk => Below.heap_setCell _ _ _ _ (by simp; omega))
    have HZ : Hid (∀ W, Below WZ.heap.size WZ W → W.heap[W5.heap.size]? = some (.cells #[.slice qa MQ qc] 24 (0, 0)) ∧ W.cell? ⟨W5.heap.size, 0, none⟩ = some (.slice qa MQ qc) ∧ Below W5.heap.size W5 W) := fun W hW => ⟨kept1 blkZ hW, cell_of_blk (kept1 blkZ hW) rfl, bw_tr bZ5 hW⟩
    have HWZ := hide hWZ
    clear KR hO13 hMQ cX cT hbw bC5 belC b13 HB13 blk13 hWZ blkZ bZ5 HX HXb bX szC
    go_upto_region 12 with fail
    rw [← unhide HWZ]
    clear cX13 fX13 HWZ
    go_cut [115] from 94 to 115 (fun v115 wx => v115 = .bool false ∧ Below WZ.heap.size WZ wx)
    case first =>
      by_cases hE : E3 = 0
      · have hrE := (unhide HE3).symm.trans hE
        obtain ⟨_, _, _, hrm⟩ := rm_of hrE
        have hmQ := hrm.ok.mayB
        have hRR : remR T mq = remT T mq := by unfold remR; rw [if_pos hrE]
        obtain ⟨r1, r2⟩ := rem_mems hrE
        rw [hRR] at HOZ
        have hQt := (unhide HOZ).trdM hmQ
        obtain ⟨MLQ, hMLQ⟩ : ∃ MLQ, MLQ = (mems (remT T mq)).length := ⟨_, rfl⟩
        have hML1 : ML = MLQ + 1 := by rw [unhide HML, hMLQ, r1]
        have HTab : Hid (∀ W, Below WZ.heap.size WZ W → Tab W) := fun W hW => (unhide HH _ (unhide HB5 _ (unhide HZ _ hW).2.2).2.2.2).2
        have KC : Hid (∀ W, Below WZ.heap.size WZ W → Calls Tryd.prog 10 #[.agg #[.slice qa MQ qc]] W fun e w' => e = .returned (.int .i64 0) ∧ Below W.heap.size W w') := fun W hW => by
          have := check_any (hQt.bw hW) (unhide HTab _ hW); rw [hmQ] at this; exact this
        have KF : Hid (∀ W, Below WZ.heap.size WZ W → Calls Tryd.prog 15 #[.agg #[.slice qa MQ qc], .int .i64 mq] W fun e w' => e = .returned (.int .i64 (-1)) ∧ Below W.heap.size W w') := fun W hW => by
          have := findX_any (hQt.bw hW) (unhide HTab _ hW) mq; rw [hmQ, if_pos rfl, r2] at this; exact this
        have KM : Hid (∀ W, Below WZ.heap.size WZ W → Calls Tryd.prog 12 #[.agg #[.slice qa MQ qc]] W fun e w' => ∃ ma mc, e = .returned (.slice ma MLQ mc) ∧ Below W.heap.size W w') := fun W hW => by
          have := membersX_any (hQt.bw hW) (unhide HTab _ hW); rw [hmQ, if_pos rfl] at this
          refine this.mono ?_
          rintro e w' ⟨r, rfl, h1, h2⟩
          obtain ⟨ma, mc, rfl⟩ := own_slice h1
          exact ⟨ma, mc, by rw [hMLQ], h2⟩
        have hd1 : (ML : Int) - 1 = (MLQ : Int) := by omega
        have hq8 : (MLQ : Int) ≤ 8 := by omega
        subst hE
        clear hQt hMLQ hML1 r1 r2 hRR hmQ hrm hrE HOZ
        have K1 := hide (unhide KC _ (Below.refl _ _))
        obtain ⟨-, cX, -⟩ := unhide HZ _ (Below.refl _ _)
        go_wp2_with fail
        refine (unhide K1).mono ?_
        rintro e W14 ⟨rfl, b14⟩
        clear K1 cX
        have K1 := hide (unhide KF _ b14)
        obtain ⟨-, cX, -⟩ := unhide HZ _ b14
        go_wp2_with fail
        refine (unhide K1).mono ?_
        rintro e W15 ⟨rfl, b15⟩
        have b16 := bw_tr b14 b15
        clear K1 cX b14 b15
        have K1 := hide (unhide KM _ b16)
        obtain ⟨-, cX, -⟩ := unhide HZ _ b16
        go_wp2_with fail
        refine (unhide K1).mono ?_
        rintro e W17 ⟨ma, mc, rfl, b17⟩
        have b18 := bw_tr b16 b17
        clear K1 cX b16 b17
        go_wp2_with fail
        go_meet
        case rel => exact ⟨by simp, b18⟩
      · have hE1 : (E3 == 0) = false := by simp [hE]
        go_wp2_with fail
        go_meet
        case rel => exact ⟨by simp, Below.refl _ _⟩
    case rest =>
      obtain ⟨rfl, belZ⟩ := hcut
      clear HOZ HE3
      obtain ⟨-, cX, bZ5⟩ := unhide HZ _ belZ
      obtain ⟨cT, -, -, hbw⟩ := unhide HB5 _ bZ5
      have KP := hide (pathX_any (unhide HH _ hbw).1 (unhide HH _ hbw).2 li)
      obtain ⟨E4, hE4⟩ : ∃ E4, E4 = askE T li := ⟨_, rfl⟩
      rw [← hE4] at KP
      have HE4 := hide hE4
      have szW : W5.heap.size < wc.heap.size := lt_of_cell cX
      clear hE4
      go_wp2_with fail
      refine (unhide KP).mono ?_
      rintro e W20 ⟨pv, rfl, hpv, b20⟩
      have bel20 := bw_tr belZ b20
      have hs20 := b20.size
      clear KP cX cT hbw bZ5
      obtain ⟨-, cX, bZ5⟩ := unhide HZ _ bel20
      obtain ⟨cT, -, -, hbw⟩ := unhide HB5 _ bZ5
      by_cases hE : E4 = 0
      rotate_left
      · have hE1 : (E4 != 0) = true := by simp [hE]
        have hE2 : (E4 == 0) = false := by simp [hE]
        have KE2 := hide (unhide KE _ hbw)
        clear hpv
        go_wp2_with fail
        refine (unhide KE2).mono ?_
        rintro e W9 ⟨rfl, b9⟩
        go_wp2
        go_ret
        exact ⟨rfl, bw_tr hbw b9⟩
      · obtain ⟨i, hie, hil, hip⟩ := askE_ok (unhide HM) ((unhide HE4).symm.trans hE)
        have ok := mayB_okn (unhide HM) (nlv_pos (by omega))
        obtain ⟨g1, g2, g3, g4, g5⟩ := ok.wd.facts
        rw [if_pos hE, hie, Int.toNat_natCast] at hpv
        subst hie hE
        obtain ⟨PT, hPT⟩ : ∃ PT, PT = pth T i := ⟨_, rfl⟩
        rw [← hPT] at hpv
        obtain ⟨PL, hPL⟩ : ∃ PL, PL = PT.length := ⟨_, rfl⟩
        have hPL3 : (PL : Int) ≤ 3 := by
          have h1 := prs_len T i
          have h2 := up_len g1 hil
          rw [hPL, hPT]; unfold pth; rw [List.length_map]; omega
        have HSET : Hid (∀ ps : List Int, ps.length = PL → (∀ q ∈ ps, 1 ≤ q) → setE T (i : Int) 9 99 ps = 0 ∧ Ok (setT T i 9 99 ps) ∧ mems (setT T i 9 99 ps) = mems T ∧ ∀ y : Nat, (y : Int) ∈ PT → y < (setT T i 9 99 ps).length ∧ rsl (setT T i 9 99 ps) y = [(y : Int)]) := fun ps h1 h2 => by
          have h3 : ps.length = (pth T i).length := by rw [h1, hPL, hPT]
          obtain ⟨f1, f2, f3⟩ := (st_of ok hil (e := 9) (p := 99) (by omega) (by omega) h3 h2).facts ok hip
          refine ⟨?_, f1, f2, by rw [hPT]; exact f3⟩
          unfold setE
          have hh : hasL T (i : Int) = true := by
            unfold hasL; rw [Int.toNat_natCast, hip]; simp; omega
          have ha : ps.any (fun q => decide (q < 1)) = false := by
            rw [List.any_eq_false]; intro q hq; have := h2 q hq; simp; omega
          rw [unhide HM, hh, Int.toNat_natCast, ha, h3]; simp
        have HPM : Hid (∀ z ∈ PT, ∃ y : Nat, z = (y : Int) ∧ y < 15) := fun z hz => by
          rw [hPT] at hz
          obtain ⟨y, e1, e2⟩ := pth_mem hz
          obtain ⟨d1, d2, d3, d4, d5, d6⟩ := up_of g1 hil
          exact ⟨y, e1, by have := (d5 y e2).1; omega⟩
        obtain ⟨pa, pc, hpe⟩ := own_slice hpv
        rw [← hPL] at hpe
        subst hpe
        have HPL := hide hPL
        have HPV := hide hpv
        clear ok g1 g2 g3 g4 g5 hil hip hPT hPL hpv HE4 cX cT hbw bZ5
        have hI0 : Ints W20.heap.size W20 (.slice none 0 0) (hun 0) := World.ownsRow_nil _ _ _ _
        go_wp2_with fail
        go_loopw [16, 17] (fun sv iv wr => ∃ k : Nat, iv = .int .i64 (k : Int) ∧ k ≤ PL ∧ Ints W20.heap.size wr sv (hun k) ∧ Below W20.heap.size W20 wr) (fun _ iv _ => (PL - (intOf iv)).toNat)
        case atStart => exact ⟨0, rfl, by omega, hI0, Below.refl _ _⟩
        case round =>
          clear hI0
          obtain ⟨k, rfl, hkP, hIs, hbel⟩ := hrel
          by_cases hlt : k < PL
          · have q1 : (k : Int) < (PL : Int) := by omega
            have hIs2 := hIs.bw (bwA wr (.cells #[.int .i64 (100 + (k : Int))] 3))
            have hone := one_own wr (100 + (k : Int))
            have hsz : W20.heap.size ≤ (wr.alloc (.cells #[.int .i64 (100 + (k : Int))] 3)).heap.size := by have := hbel.size; simp; omega
            have hst : Hid (hun (k + 1) = hun k ++ [100 + (k : Int)]) := hun_succ k
            have hlk : (hun k).length = k := hun_len k
            obtain ⟨lk, hlke⟩ : ∃ lk, lk = hun k := ⟨_, rfl⟩
            rw [← hlke] at hIs hIs2 hlk hst
            clear hlke
            go_wp2_with (at_builtin; refine wpList_join rfl (.tmp 131) (.tmp 134) rfl W20.heap.size _ _ _ lk [100 + (k : Int)] rfl hIs2 rfl hone ?c1 hsz ?nx)
            case c1 => simp; omega
            case nx =>
              intro v' w' hv' hb'
              have HN : Hid (Ints W20.heap.size w' v' (hun (k + 1)) ∧ Below W20.heap.size W20 w') := ⟨by rw [unhide hst]; exact hv', (bw_tr hbel (bwA _ _)).trans hb'⟩
              clear hv' hb' hIs hIs2 hone hlk hst
              go_wp2_with fail
              go_roundw
              case rel => exact ⟨k + 1, by go_num, by omega, (unhide HN).1, (unhide HN).2⟩
              case measure => simp [intOf]; omega
          · obtain rfl : PL = k := by omega
            have bel21 := bw_tr bel20 hbel
            obtain ⟨blk, cX, bZ5⟩ := unhide HZ _ bel21
            obtain ⟨cT, -, -, hbw⟩ := unhide HB5 _ bZ5
            obtain ⟨s1, s2, s3, s4⟩ := unhide HSET (hun PL) (hun_len PL) (hun_ge PL)
            have KS := hide (set_ok (unhide HH _ hbw).1 hIs.nums (unhide HH _ hbw).2 (i : Int) 9 99 s1)
            rw [Int.toNat_natCast] at KS
            obtain ⟨F, hF⟩ : ∃ F, F = setT T i 9 99 (hun PL) := ⟨_, rfl⟩
            rw [← hF] at KS s2 s3 s4
            have HS4 := hide s4
            have HB22 : Hid (∀ W, Below wr.heap.size wr W → W.heap[W5.heap.size]? = some (.cells #[.slice qa MQ qc] 24 (0, 0)) ∧ Below W5.heap.size W5 W ∧ Below W20.heap.size W20 W) := fun W hW => ⟨kept1 blk hW, bw_tr bZ5 hW, bw_tr hbel hW⟩
            have hsr := hbel.size
            obtain ⟨sa, sc, hse⟩ := own_slice hIs
            rw [hun_len] at hse
            subst hse
            clear hIs hF s1 s4 HSET HM blk bZ5 hbw bel21
            go_wp2_with fail
            refine (unhide KS).mono ?_
            rintro e W22 ⟨fr, us22, rfl, hO22, b22⟩
            obtain ⟨fa, fc, hfe⟩ := own_slice hO22.row
            subst hfe
            obtain ⟨MF, hMF⟩ : ∃ MF, MF = F.length := ⟨_, rfl⟩
            rw [← hMF] at hO22 ⊢
            obtain ⟨blk22, b225, b2220⟩ := unhide HB22 _ b22
            have cX22 : W22.cell? ⟨W5.heap.size, 0, none⟩ = some (.slice qa MQ qc) := cell_of_blk blk22 rfl
            have fX22 : W22.frozen? ⟨W5.heap.size, 0, none⟩ = false := frozen_of_blk blk22
            obtain ⟨WV, hWV⟩ : ∃ WV, WV = W22.setCell ⟨W5.heap.size, 0, none⟩ (.slice fa MF fc) := ⟨_, rfl⟩
            have blkV : WV.heap[W5.heap.size]? = some (.cells #[.slice fa MF fc] 24 (0, 0)) := by rw [hWV]; exact box_put blk22
            have bV5 : Below W5.heap.size W5 WV := by rw [hWV]; exact b225.setCell (Nat.le_refl _) _
            have hOV : OTr wr.heap.size WV (.slice fa MF fc) F us22 := by rw [hWV]; exact hO22.keepB (fun k hk => Below.heap_setCell _ _ _ _ (by simp; omega))
            have hPV : Ints wc.heap.size WV (.slice pa PL pc) PT := by
              have h1 := (unhide HPV).bw b2220
              rw [hWV]
              exact own_keep h1 (fun k hk => Below.heap_setCell _ _ _ _ (by have := (World.ownsRow.lt h1 k hk).1; simp; omega))
            have hmF := s2.mayB
            have hFt := hOV.trdM hmF
            have HV : Hid (∀ W, Below WV.heap.size WV W → W.cell? ⟨W5.heap.size, 0, none⟩ = some (.slice fa MF fc) ∧ Below W5.heap.size W5 W) := fun W hW => ⟨cell_of_blk (kept1 blkV hW) rfl, bw_tr bV5 hW⟩
            have HTab : Hid (∀ W, Below WV.heap.size WV W → Tab W ∧ Below w.heap.size w W ∧ Nums W (.slice wa ML wc0) (mems T)) := fun W hW => by
              obtain ⟨x1, x2, x3, x4⟩ := unhide HB5 _ (unhide HV _ hW).2
              exact ⟨(unhide HH _ x4).2, x4, x3⟩
            have HPW : Hid (∀ W, Below WV.heap.size WV W → ∀ k z, PT[k]? = some z → ∃ g, pa = some ⟨g, 0, none⟩ ∧ PL ≤ pc ∧ pc ≤ maxLen ∧ W.cell? ⟨g, k, none⟩ = some (.int .i64 z)) := fun W hW k z hz => by
              have h1 := hPV.bw hW
              have hlt := (List.getElem?_eq_some_iff.1 hz).1
              obtain ⟨g, cap, e1, e2, e3, _⟩ := own_open h1 (by omega)
              have hc := own_cell h1 (g := g) (by rw [e1]; rfl) (j := k) (u := .int .i64 z) (by rw [List.getElem?_map, hz]; rfl)
              have hcap : cap ≤ maxLen := by
                rcases h1.nums with ⟨q, _⟩ | ⟨_, _, _, q, _, q2, _⟩
                · rw [q] at hlt; simp at hlt
                · rw [e1] at q; cases q; exact q2
              rw [← unhide HPL] at e1 e3
              cases e1
              exact ⟨g, rfl, e3, hcap, hc⟩
            have KC : Hid (∀ W, Below WV.heap.size WV W → Calls Tryd.prog 10 #[.agg #[.slice fa MF fc]] W fun e w' => e = .returned (.int .i64 0) ∧ Below W.heap.size W w') := fun W hW => by
              have := check_any (hFt.bw hW) (unhide HTab _ hW).1; rw [hmF] at this; exact this
            have KM : Hid (∀ W, Below WV.heap.size WV W → Calls Tryd.prog 12 #[.agg #[.slice fa MF fc]] W fun e w' => ∃ r, e = .returned r ∧ Nums w' r (mems T) ∧ Below W.heap.size W w') := fun W hW => by
              have := membersX_any (hFt.bw hW) (unhide HTab _ hW).1; rw [hmF, if_pos rfl, s3] at this
              refine this.mono ?_
              rintro e w' ⟨r, rfl, h1, h2⟩
              exact ⟨r, rfl, h1.nums, h2⟩
            have KRS : Hid (∀ W, Below WV.heap.size WV W → ∀ z ∈ PT, Calls Tryd.prog 19 #[.agg #[.slice fa MF fc], .int .i64 z] W fun e w' => ∃ r, e = .returned (.tuple #[r, .int .i64 0]) ∧ Nums w' r [z] ∧ Below W.heap.size W w') := fun W hW z hz => by
              obtain ⟨y, rfl, _⟩ := unhide HPM z hz
              obtain ⟨y1, y2⟩ := unhide HS4 y hz
              have e0 : resE F (y : Int) = 0 := by unfold resE; rw [hmF]; simp; omega
              have := resolutionX_any (hFt.bw hW) (unhide HTab _ hW).1 (y : Int)
              rw [e0, if_pos rfl, Int.toNat_natCast, y2] at this
              refine this.mono ?_
              rintro e w' ⟨r, h1, h2, h3⟩
              exact ⟨r, h1, h2.nums, h3⟩
            have HWV := hide hWV
            clear KS hO22 hMF blk22 b225 b2220 b22 hWV blkV bV5 hOV hPV hmF hFt HPV HB22 cX cT s2 s3 HS4 HZ hsr
            go_upto_region 23 with fail
            rw [← unhide HWV]
            clear cX22 fX22 HWV
            have K1 := hide (unhide KC _ (Below.refl _ _))
            obtain ⟨cX, -⟩ := unhide HV _ (Below.refl _ _)
            go_wp2_with fail
            refine (unhide K1).mono ?_
            rintro e W24 ⟨rfl, b24⟩
            clear K1 cX
            have K1 := hide (unhide KM _ b24)
            obtain ⟨cX, -⟩ := unhide HV _ b24
            go_wp2_with fail
            refine (unhide K1).mono ?_
            rintro e W25 ⟨mr, rfl, hmr, b25⟩
            have bel25 := bw_tr b24 b25
            clear K1 cX
            have K1 := hide (same_any _ _ _ _ _ hmr (unhide HTab _ bel25).2.2)
            rw [decide_eq_true rfl] at K1
            obtain ⟨mra, mrc, hmre⟩ := nums_slice hmr
            subst hmre
            clear hmr b24 b25
            go_wp2_with fail
            refine (unhide K1).mono ?_
            rintro e W26 ⟨rfl, b26⟩
            have bel26 := bw_tr bel25 b26
            clear K1 bel25 b26 KM KC
            go_wp2_with fail
            go_loopw [18, 19, 20] (fun iv _ _ wq => ∃ k : Nat, iv = .int .i64 (k : Int) ∧ k ≤ PL ∧ Below W26.heap.size W26 wq) (fun iv _ _ _ => (PL - (intOf iv)).toNat)
            case atStart => exact ⟨0, rfl, by omega, Below.refl _ _⟩
            case round =>
              obtain ⟨k, rfl, hkP, hbq⟩ := hrel
              have belq := bw_tr bel26 hbq
              by_cases hlt : k < PL
              · have q1 : (k : Int) < (PL : Int) := by omega
                have q0 : (0 : Int) ≤ (k : Int) := by omega
                obtain ⟨z, hz⟩ : ∃ z, PT[k]? = some z := ⟨_, List.getElem?_eq_getElem (by have := unhide HPL; omega)⟩
                have belD : Below WV.heap.size WV wr.drew := belq.drew
                have bdq : Below W26.heap.size W26 wr.drew := hbq.drew
                obtain ⟨g, hg, hc1, hc2, cP⟩ := unhide HPW _ belD k z hz
                have HPk : Hid (∀ W, Below WV.heap.size WV W → W.cell? ⟨g, k, none⟩ = some (.int .i64 z)) := fun W hW => by
                  obtain ⟨g', hg', _, _, c'⟩ := unhide HPW _ hW k z hz
                  rw [hg] at hg'; cases hg'; exact c'
                have KR2 := hide (unhide KRS _ belD z (List.mem_of_getElem? hz))
                subst hg
                have hpc : (PL : Int) ≤ (pc : Int) := by omega
                have hkc : (k : Int) + 1 ≤ (pc : Int) := by omega
                have hkn : k < PL := hlt
                have S0 : wr.drew.cell? ⟨W5.heap.size, 0, none⟩ = some (.slice fa MF fc) ∧ wr.drew.cell? ⟨g, k, none⟩ = some (.int .i64 z) := ⟨(unhide HV _ belD).1, cP⟩
                clear hz cP HPW KRS
                go_upto_region 28 with fail
                go_region_held3 (fun W : World => W.cell? ⟨W5.heap.size, 0, none⟩ = some (.slice fa MF fc) ∧ W.cell? ⟨g, k, none⟩ = some (.int .i64 z)) (first | with_reducible exact S0 | with_reducible exact S1) (first
                  | (go_at_call 19; refine (unhide KR2).mono ?_; rintro e z1 ⟨rv, rfl, hrv, y1⟩; have x1 := bw_tr belD y1; have S1 : z1.cell? ⟨W5.heap.size, 0, none⟩ = some (.slice fa MF fc) ∧ z1.cell? ⟨g, k, none⟩ = some (.int .i64 z) := ⟨(unhide HV _ x1).1, unhide HPk _ x1⟩)
                  | fail)
                all_goals
                  have bq1 := bw_tr bdq y1
                  have cP1 := S1.2
                  obtain ⟨rva, rvc, hre⟩ := nums_slice hrv
                  subst hre
                  have hN2 : Nums z1 (.slice (some ⟨g, k, none⟩) 1 (pc - k)) [z] := Or.inr ⟨g, k, pc - k, rfl, by simp; omega, by omega, fun j z' hj => by
                    cases j with
                    | zero => simp at hj; subst hj; exact cP1
                    | succ j => simp at hj⟩
                  have K1 := hide (same_any _ _ _ _ _ hrv hN2)
                  rw [decide_eq_true rfl] at K1
                  clear S0 S1 hrv hN2 KR2 HPk
                  go_wp2_with fail
                  refine (unhide K1).mono ?_
                  rintro e z2 ⟨rfl, y2⟩
                  have bq2 := bw_tr bq1 y2
                  clear K1 cP1
                  go_wp2_with fail
                  go_roundw
                  case rel => first | exact ⟨k + 1, by go_num, by omega, bq2⟩ | ((repeat apply Exists.intro); exact ⟨⟨k + 1, by go_num, by omega, bq2⟩, rfl⟩) | exact ⟨k + 1, by omega, by omega⟩
                  case measure => simp [intOf]; omega
              · obtain rfl : PL = k := by omega
                obtain ⟨-, hbw, -⟩ := unhide HTab _ belq
                have KE2 := hide (unhide KE _ hbw)
                go_wp2_with fail
                refine (unhide KE2).mono ?_
                rintro e W9 ⟨rfl, b9⟩
                go_wp2
                go_ret
                exact ⟨rfl, bw_tr hbw b9⟩
end Go.Proofs.YtjjkhjiiakamaaaDoor
