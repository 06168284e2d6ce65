/- TreeForgets, the walk. -/
import Derived.Test.YtjjkhjiiakamaaaDoorTrY2
import Derived.Test.YtjjkhjiiakamaaaDoorTrLawCovers
namespace Go.Proofs.YtjjkhjiiakamaaaDoor
open Go.RowKit Go.Maps

/-- Somebody who left is named nowhere. -/
theorem forgot {T R : List Nd} {i : Nat} (h : Rm T R i) : ∀ x, x < R.length → ((2 * i : Nat) : Int) ∉ rsl R x ∧ (i : Int) ∉ (ndAt R x).un ∧ (x % 2 = 1 → 0 < (ndAt R x).pub → nms R [(x : Int)] i = 0) := fun x hx => by
  obtain ⟨g1, g2, g3, g4, g5⟩ := h.ok.wd.facts
  obtain ⟨h1, h2⟩ := rsl_no h.ok (l := i) (fun hi => by rw [h.gone hi]; rfl) x hx
  refine ⟨h1, h2, fun ho hp => ?_⟩
  rw [nms_cons, nms_nil]
  have hn := h.n
  have hi := h.i8
  have h8 := h.t8
  have hno : nm1 R i (x : Nat) = false := by
    unfold nm1
    have e1 : ¬ ((x : Nat) : Int) = 2 * (i : Int) := by omega
    have e2 : ¬ (spF (x : Nat) ≤ (i : Nat) ∧ (i : Nat) ≤ spT (x : Nat)) := fun ⟨q1, q2⟩ => by
      rw [h.above x hx ho q1 q2] at hp; simp [nd0] at hp
    by_cases c8 : i < 8
    · rw [wi_of c8 (by omega)]
      have : (decide (spF (x : Nat) ≤ (i : Nat)) && decide ((i : Nat) ≤ spT (x : Nat))) = false := by
        rw [Bool.and_eq_false_iff, decide_eq_false_iff_not, decide_eq_false_iff_not]; omega
      rw [this]
      simp [e1]
    · exfalso; omega
  rw [hno]; rfl
set_option maxRecDepth 100000 in
set_option maxHeartbeats 8000000 in
theorem TreeForgets_walk (w : World) (v : Value) (T : List Nd) (h : Trd w v T) (hT : Tab w) (mm : Int) :
    Calls Tryd.prog 6 #[.agg #[v], .int .i64 mm] w fun e w' => e = .returned (.bool true) ∧ Below w.heap.size w w' := by
  obtain ⟨a, c, rfl⟩ := h.slice
  obtain ⟨W0, hW0⟩ : ∃ W0, W0 = bxw w (.slice a T.length c) := ⟨_, rfl⟩
  have hb0 : Below w.heap.size w W0 := by rw [hW0]; exact bwA _ _
  have HB : Hid (∀ W, Below W0.heap.size W0 W → W.cell? ⟨w.heap.size, 0, none⟩ = some (.slice a T.length c) ∧ Below w.heap.size w W) := fun W hW => by subst hW0; exact ⟨bx_cell hW, bx_bel hW⟩
  have HH : Hid (∀ W, Below w.heap.size w W → Trd W (.slice a T.length c) T ∧ Tab W) := fun W hW => ⟨h.bw hW, hT.bw hW⟩
  have KE : Hid (∀ W, Below w.heap.size w W → Calls Tryd.prog 11 #[] W fun e w' => e = .returned (.bool true) ∧ Below w.heap.size w w') := fun W hW => alive_end hT hW
  have KT := hide (treeSize_any (h.bw hb0))
  have HW : Hid (W0 = w.alloc (.cells #[.slice a T.length c] 24)) := hW0
  have HTL : Hid (0 < T.length → ∃ b o, a = some ⟨b, o, none⟩ ∧ ∀ w', Below w.heap.size w w' → ∀ i, i < T.length → ∃ u, NdC w' b (o + i * 4) (ndAt T i) u ∧ Nums w' u (ndAt T i).un) := h.at.2
  clear h hT hW0
  obtain ⟨N, hN⟩ : ∃ N, N = T.length := ⟨_, rfl⟩
  rw [← hN] at HB HH KT HW ⊢
  have HN := hide hN
  clear hN
  go_enter Tryd.func6, Tryd.ntmps6
  go_wp2_with fail
  rw [← unhide HW]
  refine (unhide KT).mono ?_
  rintro e W1 ⟨n, rfl, hn, b1⟩
  have b2 : Below W0.heap.size W0 (W1.alloc (.cells #[.int .i64 (n : Int)] 3)) := b1.alloc b1.size _
  have KBy := hide (beyond8 W1.heap.size n 1 (W1.alloc (.cells #[.int .i64 (n : Int)] 3)) hn (cell_of_blk (heap_alloc_new W1 _) rfl))
  obtain ⟨W2, hW2⟩ : ∃ W2, W2 = W1.alloc (.cells #[.int .i64 (n : Int)] 3) := ⟨_, rfl⟩
  rw [← hW2] at KBy b2
  have HW2 := hide hW2
  clear hW2 KT HW hn b1
  generalize decide (262144 < n) = by_ at *
  obtain ⟨c0, hbw⟩ := unhide HB _ b2
  go_wp2_with fail
  rw [← unhide HW2]
  refine (unhide KBy).mono ?_
  rintro e W2 ⟨rfl, rfl⟩
  clear KBy HW2
  cases by_
  rotate_left
  · go_wp2_with fail
    go_ret
    exact ⟨rfl, hbw⟩
  have KF := hide (findX_any (unhide HH _ hbw).1 (unhide HH _ hbw).2 mm)
  obtain ⟨FV, hFV⟩ : ∃ FV : Int, FV = if mayB T = true then fnd T mm else -1 := ⟨_, rfl⟩
  rw [← hFV] at KF
  have HFV := hide hFV
  clear hFV
  go_wp2_with fail
  refine (unhide KF).mono ?_
  rintro e W3 ⟨rfl, b3⟩
  have b4 := bw_tr b2 b3
  clear KF c0 hbw b2 b3
  obtain ⟨c0, hbw⟩ := unhide HB _ b4
  have KR := hide (rem_any (unhide HH _ hbw).1 (unhide HH _ hbw).2 mm)
  obtain ⟨E1, hE1⟩ : ∃ E1, E1 = remE T mm := ⟨_, rfl⟩
  rw [← hE1] at KR
  have HE1 := hide hE1
  clear hE1
  go_wp2_with fail
  refine (unhide KR).mono ?_
  rintro e W4 ⟨rr, us, rfl, hO, b5⟩
  have b6 := bw_tr b4 b5
  clear KR c0 hbw b4
  obtain ⟨ra, rc, hre⟩ := own_slice hO.row
  subst hre
  obtain ⟨M, hM⟩ : ∃ M, M = (remR T mm).length := ⟨_, rfl⟩
  rw [← hM] at hO
  rw [← hM]
  have HM := hide hM
  have HO := hide hO
  clear hM hO b5
  obtain ⟨c0, hbw⟩ := unhide HB _ b6
  obtain ⟨WX, hWX⟩ : ∃ WX, WX = W4.alloc (.cells #[.slice ra M rc] 24) := ⟨_, rfl⟩
  have bX : Below W4.heap.size W4 WX := by rw [hWX]; exact bwA _ _
  have bX0 := bw_tr b6 bX
  have HBX : Hid (∀ W, Below WX.heap.size WX W → W.cell? ⟨W4.heap.size, 0, none⟩ = some (.slice ra M rc) ∧ W.cell? ⟨w.heap.size, 0, none⟩ = some (.slice a N c) ∧ Below w.heap.size w W) := fun W hW =>
    ⟨by subst hWX; exact bx_cell hW, (unhide HB _ (bw_tr bX0 hW)).1, (unhide HB _ (bw_tr bX0 hW)).2⟩
  have HO2 : Hid (OTr W3.heap.size WX (.slice ra M rc) (remR T mm) us) := by have := (unhide HO).bw bX; exact this
  have HWX : Hid (WX = W4.alloc (.cells #[.slice ra M rc] 24)) := hWX
  clear HO bX hWX b6 bX0 c0 hbw HB
  go_upto_if 26 with fail
  rw [← unhide HWX]
  obtain ⟨cX, cT, hbw⟩ := unhide HBX _ (Below.refl _ _)
  by_cases hE : E1 = 0
  · have hrE := (unhide HE1).symm.trans hE
    obtain ⟨i, hfe, hhit, hrm⟩ := rm_of hrE
    have hmT := (remE_ok hrE).1
    obtain rfl : FV = (i : Int) := by rw [unhide HFV, if_pos hmT, hfe]
    have hRR : remR T mm = remT T mm := by unfold remR; rw [if_pos hrE]
    rw [hRR] at HO2 HM
    generalize remT T mm = R at *
    subst hE
    have ok := hrm.ok
    obtain ⟨g1, g2, g3, g4, g5⟩ := ok.wd.facts
    have hmR := ok.mayB
    have hRt := (unhide HO2).trdM hmR
    obtain ⟨b', o', hab', hndR⟩ := hRt.at.2 (by omega)
    have hrn := hrm.n
    have hri := hrm.i8
    have h8 := hrm.t8
    have okT := mayB_okn hmT (nlv_pos (by omega))
    have hTl := okT.wd.facts.2.1
    obtain ⟨b, o, hab, hndT⟩ := unhide HTL (by omega)
    have HNT : Hid (∀ W, Below w.heap.size w W → ∀ j, j < T.length → ∃ u, NdC W b (o + j * 4) (ndAt T j) u ∧ Nums W u (ndAt T j).un) := hndT
    have HNR : Hid (∀ W, Below WX.heap.size WX W → ∀ j, j < R.length → ∃ u, NdC W b' (o' + j * 4) (ndAt R j) u ∧ Nums W u (ndAt R j).un) := hndR
    have HG := hide (forgot hrm)
    have HLf := hide hrm.leaf
    have HUN : Hid (∀ j, (ndAt R j).un.length ≤ 8) := fun j => (un_ok hmR j).2
    have KR : Hid (∀ W, Below WX.heap.size WX W → ∀ k : Nat, k < R.length → Calls Tryd.prog 19 #[.agg #[.slice ra M rc], .int .i64 (k : Int)] W fun e w' => ∃ r, e = .returned (.tuple #[r, .int .i64 0]) ∧ Nums w' r (rsl R k) ∧ (rsl R k).length ≤ 72 ∧ Below W.heap.size W w') := fun W hW k hk => by
      have e0 : resE R (k : Int) = 0 := by unfold resE; rw [hmR]; simp; omega
      have := resolutionX_any (hRt.bw hW) (unhide HH _ (unhide HBX _ hW).2.2).2 (k : Int)
      rw [e0, if_pos rfl, Int.toNat_natCast] at this
      refine this.mono ?_
      rintro e w' ⟨r, h1, h2, h3⟩
      exact ⟨r, h1, h2.nums, rsl_72 ok.wd ok.sm hk, h3⟩
    have KN : Hid (∀ W, Below WX.heap.size WX W → ∀ k : Nat, k < R.length → Calls Tryd.prog 22 #[.agg #[.slice ra M rc], .slice (some ⟨W.heap.size, 0, none⟩) 1 1, .int .i64 (i : Int)] (W.alloc (.cells #[.int .i64 (k : Int)] 3)) fun e w' => e = .returned (.int .i64 (nms R [(k : Int)] i : Nat)) ∧ Below W.heap.size W w') := fun W hW k hk => by
      refine (names_any (hRt.bw (hW.alloc hW.size _)) g3 (un_len hmR) (one_own W (k : Int)).nums (by simp) (fun z hz => ?_) i (by omega)).mono (fun e w' h => ⟨h.1, bw_tr (bwA _ _) h.2⟩)
      simp at hz; subst hz; omega
    have KS : Hid (∀ W, Below WX.heap.size WX W → Calls Tryd.prog 20 #[.agg #[.slice ra M rc]] W fun e w' => e = .returned (.int .i64 (nlv R : Nat)) ∧ Below W.heap.size W w') := fun W hW => by
      have := size_any (hRt.bw hW) (unhide HH _ (unhide HBX _ hW).2.2).2; rw [hmR, if_pos rfl] at this; exact this
    subst hab hab'
    have hM15 : (M : Int) ≤ 15 := by have := unhide HM; omega
    have HLR : Hid (M = 2 * nlv R - 1 ∧ N = 2 * nlv T - 1 ∧ R.length = M ∧ T.length = N ∧ nlv R ≤ nlv T) := ⟨by rw [unhide HM, g2], by rw [unhide HN, hTl], (unhide HM).symm, (unhide HN).symm, hrn⟩
    have hi8 : (i : Int) ≤ 7 := by omega
    have hnR8 : (nlv R : Int) ≤ 8 := by omega
    have hnT8 : (nlv T : Int) ≤ 8 := by omega
    clear HM HN HTL HE1 HFV HH HO2 hRt hndT hndR hrm ok okT g1 g2 g3 g4 g5 hmR hmT hRR hfe hhit hrE hrn hri h8 hTl cX cT hbw hb0 HWX
    generalize nlv R = nR at *
    generalize nlv T = nT at *
    go_wp2_with fail
    go_loopw [8] (fun iv wr => ∃ k : Nat, iv = .int .i64 (k : Int) ∧ k ≤ M ∧ Below WX.heap.size WX wr) (fun iv _ => (M - (intOf iv)).toNat)
    case atStart => exact ⟨0, rfl, by omega, Below.refl _ _⟩
    case round =>
      obtain ⟨k, rfl, hkM, hbel⟩ := hrel
      obtain ⟨cX, cT, hbw⟩ := unhide HBX _ hbel
      by_cases hlt : k < M
      · have q1 : (k : Int) < (M : Int) := by omega
        have q0 : (0 : Int) ≤ (k : Int) := by omega
        have hkR : k < R.length := by have := (unhide HLR).2.2.1; omega
        have KR2 := hide (unhide KR _ hbel k hkR)
        go_wp2_with fail
        refine (unhide KR2).mono ?_
        rintro e W5 ⟨r, rfl, hr, hrl, b7⟩
        have bel5 := bw_tr hbel b7
        clear KR2 cX cT hbw b7 hbel
        obtain ⟨cX, cT, hbw⟩ := unhide HBX _ bel5
        obtain ⟨u, nc, hu⟩ := unhide HNR _ bel5 k hkR
        obtain ⟨f1, f2, f3⟩ := unhide HG k hkR
        have K1 := hide (has_any8 hr (2 * (i : Int)) (by omega))
        have K2 := hide (has_any8 hu (i : Int) (by have := unhide HUN k; omega))
        have e1 : decide (2 * (i : Int) ∈ rsl R k) = false := decide_eq_false (by have := f1; rwa [Int.natCast_mul] at this)
        rw [e1] at K1
        rw [decide_eq_false f2] at K2
        have K3 := hide (unhide KN _ bel5 k hkR)
        have F3 := hide f3
        have nc3 := nc.c3
        have nc0 := nc.c0
        clear e1 f1 f2 f3 hr hrl hu hkR nc
        generalize nms R [(k : Int)] i = nn at *
        generalize (ndAt R k).pub = pb at *
        go_wp2_with fail
        refine (unhide K1).mono ?_
        rintro e W5 ⟨rfl, rfl⟩
        clear K1
        go_wp2_with fail
        refine (unhide K2).mono ?_
        rintro e W5 ⟨rfl, rfl⟩
        clear K2
        rcases Nat.mod_two_eq_zero_or_one k with ho | ho
        · have hm1 : (k : Int).tmod 2 = 0 := by rw [Int.tmod_eq_emod_of_nonneg (by omega)]; omega
          have hm2 : (k : Int) % 2 = 0 := by omega
          go_wp2_with fail
          go_roundw
          case rel => first | exact ⟨k + 1, by go_num, by omega, bel5⟩ | ((repeat apply Exists.intro); exact ⟨⟨k + 1, by go_num, by omega, bel5⟩, rfl⟩) | exact ⟨k + 1, by omega, by omega⟩
          case measure => simp [intOf]; omega
        · have hm1 : (k : Int).tmod 2 = 1 := by rw [Int.tmod_eq_emod_of_nonneg (by omega)]; omega
          have hm2 : (k : Int) % 2 = 1 := by omega
          by_cases hp : 0 < pb
          · obtain rfl : nn = 0 := unhide F3 ho hp
            go_wp2_with fail
            refine (unhide K3).mono ?_
            rintro e W6 ⟨rfl, b8⟩
            go_wp2_with fail
            go_roundw
            case rel => first | exact ⟨k + 1, by go_num, by omega, bw_tr bel5 b8⟩ | ((repeat apply Exists.intro); exact ⟨⟨k + 1, by go_num, by omega, bw_tr bel5 b8⟩, rfl⟩) | exact ⟨k + 1, by omega, by omega⟩
            case measure => simp [intOf]; omega
          · go_wp2_with fail
            go_roundw
            case rel => first | exact ⟨k + 1, by go_num, by omega, bel5⟩ | ((repeat apply Exists.intro); exact ⟨⟨k + 1, by go_num, by omega, bel5⟩, rfl⟩) | exact ⟨k + 1, by omega, by omega⟩
            case measure => simp [intOf]; omega
      · obtain rfl : M = k := by omega
        generalize wr = WR at *
        go_wp2_with fail
        go_loopw [11] (fun iv wq => ∃ j : Nat, iv = .int .i64 (j : Int) ∧ j ≤ nR ∧ Below WR.heap.size WR wq) (fun iv _ => (nR - (intOf iv)).toNat)
        case atStart => exact ⟨0, rfl, by omega, Below.refl _ _⟩
        case round =>
          obtain ⟨j, rfl, hjn, hbel2⟩ := hrel
          have bel5 := bw_tr hbel hbel2
          obtain ⟨cX, cT, hbw⟩ := unhide HBX _ bel5
          have K1 := hide (unhide KS _ bel5)
          go_wp2_with fail
          refine (unhide K1).mono ?_
          rintro e W5 ⟨rfl, b7⟩
          have belR := bw_tr hbel2 b7
          have belX := bw_tr bel5 b7
          clear K1 cX cT hbw b7 bel5 hbel2
          by_cases hlt : j < nR
          · have q1 : (j : Int) < (nR : Int) := by omega
            by_cases hji : j = i
            · have hji2 : (j : Int) = (i : Int) := by omega
              have hji3 : ((j : Int) != (i : Int)) = false := by simp [hji2]
              clear hji2 hji
              go_upto_region 18 with fail
              go_quiet (fail)
              all_goals
                go_wp2_with fail
                go_roundw
                case rel => first | exact ⟨j + 1, by go_num, by omega, below_drewN belR _⟩ | ((repeat apply Exists.intro); exact ⟨⟨j + 1, by go_num, by omega, below_drewN belR _⟩, rfl⟩)
                case measure => simp [intOf]; omega
            · have hji2 : ¬ (j : Int) = (i : Int) := by omega
              have hji3 : ((j : Int) != (i : Int)) = true := by simp [hji2]
              obtain ⟨y, hy⟩ : ∃ y, y = 2 * j := ⟨_, rfl⟩
              obtain ⟨l1, l2, l3, l4, l5⟩ := unhide HLR
              have hyR : y < R.length := by omega
              have hyT : y < T.length := by omega
              have hnd := unhide HLf j hlt hji
              rw [← hy] at hnd
              have belD : Below WX.heap.size WX W5.drew := belX.drew
              have bd : Below W5.heap.size W5 W5.drew := (Below.refl _ _).drew
              obtain ⟨u1, n1, m1⟩ := unhide HNR _ belD y hyR
              obtain ⟨u2, n2, m2⟩ := unhide HNT _ (unhide HBX _ belD).2.2 y hyT
              rw [hnd] at n1 m1
              have K3 := hide (sameNode_eq m1 m2)
              obtain ⟨cX, cT, hbw⟩ := unhide HBX _ belD
              have HS : Hid (∀ W, Below W5.heap.size W5 W → Hid (Below WX.heap.size WX W)) := fun W hW => bw_tr belX hW
              have qy : 2 * (j : Int) = (y : Int) := by omega
              have qN : (y : Int) < (N : Int) := by omega
              have qw : IntKind.i64.wrap (2 * (j : Int)) = (y : Int) := by rw [qy]; exact wrap_i64_nat y (by omega)
              have qM : (y : Int) < (M : Int) := by omega
              have q0 : (0 : Int) ≤ (y : Int) := by omega
              have hN15 : (N : Int) ≤ 15 := by omega
              have qMn : y < M := by omega
              have qNn : y < N := by omega
              have qt : (y : Int).toNat = y := by omega
              clear qy
              have belRD : Below WR.heap.size WR W5.drew := belR.drew
              obtain ⟨n10, n11, n12, n13⟩ := n1
              obtain ⟨n20, n21, n22, n23⟩ := n2
              clear hnd hyR hyT m1 m2 l1 l2 l3 l4 l5 hy
              generalize (ndAt T y).pub = pb at *
              generalize (ndAt T y).mem = mb at *
              generalize (ndAt T y).ep = eb at *
              go_upto_region 18 with fail
              generalize hwd : W5.drew = WD at *
              have HC : Hid (∀ W, Below WD.heap.size WD W → W.cell? ⟨W4.heap.size, 0, none⟩ = some (.slice (some ⟨b', o', none⟩) M rc) ∧ W.cell? ⟨w.heap.size, 0, none⟩ = some (.slice (some ⟨b, o, none⟩) N c)
                 ∧ (W.cell? ⟨b', o' + y * 4, none⟩ = some (.int .i64 pb) ∧ W.cell? ⟨b', o' + y * 4 + 1, none⟩ = some (.int .i64 mb) ∧ W.cell? ⟨b', o' + y * 4 + 2, none⟩ = some (.int .i64 eb) ∧ W.cell? ⟨b', o' + y * 4 + 3, none⟩ = some u1)
                 ∧ (W.cell? ⟨b, o + y * 4, none⟩ = some (.int .i64 pb) ∧ W.cell? ⟨b, o + y * 4 + 1, none⟩ = some (.int .i64 mb) ∧ W.cell? ⟨b, o + y * 4 + 2, none⟩ = some (.int .i64 eb) ∧ W.cell? ⟨b, o + y * 4 + 3, none⟩ = some u2)) := fun W hW =>
                ⟨cell_keep cX (hW.block _ (lt_of_cell cX)), cell_keep cT (hW.block _ (lt_of_cell cT)),
                  ⟨cell_keep n10 (hW.block _ (lt_of_cell n10)), cell_keep n11 (hW.block _ (lt_of_cell n11)), cell_keep n12 (hW.block _ (lt_of_cell n12)), cell_keep n13 (hW.block _ (lt_of_cell n13))⟩,
                  ⟨cell_keep n20 (hW.block _ (lt_of_cell n20)), cell_keep n21 (hW.block _ (lt_of_cell n21)), cell_keep n22 (hW.block _ (lt_of_cell n22)), cell_keep n23 (hW.block _ (lt_of_cell n23))⟩⟩
              subst hwd
              have S0 := unhide HC _ (Below.refl _ _)
              clear cX cT n10 n11 n12 n13 n20 n21 n22 n23 HS
              go_region_held3 (fun W : World => W.cell? ⟨W4.heap.size, 0, none⟩ = some (.slice (some ⟨b', o', none⟩) M rc) ∧ W.cell? ⟨w.heap.size, 0, none⟩ = some (.slice (some ⟨b, o, none⟩) N c)
                 ∧ (W.cell? ⟨b', o' + y * 4, none⟩ = some (.int .i64 pb) ∧ W.cell? ⟨b', o' + y * 4 + 1, none⟩ = some (.int .i64 mb) ∧ W.cell? ⟨b', o' + y * 4 + 2, none⟩ = some (.int .i64 eb) ∧ W.cell? ⟨b', o' + y * 4 + 3, none⟩ = some u1)
                 ∧ (W.cell? ⟨b, o + y * 4, none⟩ = some (.int .i64 pb) ∧ W.cell? ⟨b, o + y * 4 + 1, none⟩ = some (.int .i64 mb) ∧ W.cell? ⟨b, o + y * 4 + 2, none⟩ = some (.int .i64 eb) ∧ W.cell? ⟨b, o + y * 4 + 3, none⟩ = some u2)) (first | with_reducible exact S0 | with_reducible exact S1) (first
                | (go_at_call 24; refine (unhide K3).mono ?_; rintro e z1 ⟨rfl, y1⟩; have S1 := unhide HC _ y1)
                | fail)
              all_goals
                have belR9 := bw_tr belRD y1
                go_wp2_with fail
                go_roundw
                case rel => first | exact ⟨j + 1, by go_num, by omega, belR9⟩ | ((repeat apply Exists.intro); exact ⟨⟨j + 1, by go_num, by omega, belR9⟩, rfl⟩) | exact ⟨j + 1, by omega, by omega⟩
                case measure => simp [intOf]; omega
          · obtain rfl : j = nR := by omega
            obtain ⟨cX, cT, hbw⟩ := unhide HBX _ belX
            have KE2 := hide (unhide KE _ hbw)
            go_wp2_with fail
            refine (unhide KE2).mono ?_
            rintro e W9 ⟨rfl, b9⟩
            go_wp2
            go_ret
            exact ⟨rfl, b9⟩
  · have hM0 : M = 0 := by
      have hrE : ¬ remE T mm = 0 := fun h => hE ((unhide HE1).trans h)
      rw [unhide HM]; unfold remR; rw [if_neg hrE]; rfl
    subst hM0
    have KE2 := hide (unhide KE _ hbw)
    have hE1 : (E1 != 0) = true := by simp [hE]
    rw [hE1]
    go_wp2_with fail
    refine (unhide KE2).mono ?_
    rintro e W9 ⟨rfl, b9⟩
    go_wp2
    go_ret
    exact ⟨rfl, b9⟩
end Go.Proofs.YtjjkhjiiakamaaaDoor
