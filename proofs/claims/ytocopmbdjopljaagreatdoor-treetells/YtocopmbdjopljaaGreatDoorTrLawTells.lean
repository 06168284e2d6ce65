/- TreeTells, the walk. -/
import Derived.Test.YtocopmbdjopljaaGreatDoorBaT
import Derived.Test.YtocopmbdjopljaaGreatDoorTtE
import Derived.Test.YtocopmbdjopljaaGreatDoorTtF
import Derived.Test.YtocopmbdjopljaaGreatDoorTbG
namespace Go.Proofs.YtocopmbdjopljaaGreatDoor
open Go.RowKit Go.Maps

theorem alive_end8 {w W : World} (hT : Tab w) (hb : Below w.heap.size w W) : Calls Tryz.prog 22 #[] W fun e w' => e = .returned (.bool true) ∧ Below w.heap.size w w' := (alive8 W (hT.bw hb)).mono (fun _ _ h => ⟨h.1, bw_tr hb h.2⟩)
theorem mems_len8 {T : List Nd} (h : mayB T = true) : (mems T).length ≤ 8 := by
  have h1 : (mems T).length ≤ (lvs T).length := by unfold mems; exact memsOf_len _
  rw [lvs_len] at h1
  have := (mayB_15 h).2
  omega
set_option maxRecDepth 100000 in
set_option maxHeartbeats 8000000 in
theorem TreeTells_walk (w : World) (v : Value) (T : List Nd) (h : Trd w v T) (hT : Tab w) (mm : Int) :
    Calls Tryz.prog 3 #[.agg #[v], .int .i64 mm] w fun e w' => e = .returned (.bool true) ∧ Below w.heap.size w w' := by
  obtain ⟨a, c, rfl⟩ := h.slice
  obtain ⟨W0, hW0⟩ : ∃ W0, W0 = bxw w (.slice a T.length c) := ⟨_, rfl⟩
  have hb0 : Below w.heap.size w W0 := by rw [hW0]; exact bwA _ _
  have HB : Hid (∀ W, Below W0.heap.size W0 W → W.cell? ⟨w.heap.size, 0, none⟩ = some (.slice a T.length c) ∧ Below w.heap.size w W) := fun W hW => by subst hW0; exact ⟨bx_cell hW, bx_bel hW⟩
  have HH : Hid (∀ W, Below w.heap.size w W → Trd W (.slice a T.length c) T ∧ Tab W) := fun W hW => ⟨h.bw hW, hT.bw hW⟩
  have KE : Hid (∀ W, Below w.heap.size w W → Calls Tryz.prog 22 #[] W fun e w' => e = .returned (.bool true) ∧ Below w.heap.size w w') := fun W hW => alive_end8 hT hW
  have KT := hide (treeSize2_any (h.bw hb0))
  have HW : Hid (W0 = w.alloc (.cells #[.slice a T.length c] 24)) := hW0
  clear h hT hW0
  obtain ⟨N, hN⟩ : ∃ N, N = T.length := ⟨_, rfl⟩
  rw [← hN] at HB HH HW KT ⊢
  have HN := hide hN
  clear hN
  go_enter Tryz.func3, Tryz.ntmps3
  go_wp2_with fail
  rw [← unhide HW]
  refine (unhide KT).mono ?_
  rintro e W1 ⟨n, rfl, hn, hsum, b1⟩
  have b2 : Below W0.heap.size W0 (W1.alloc (.cells #[.int .i64 (n : Int)] 3)) := b1.alloc b1.size _
  have KBy := hide (beyond8 W1.heap.size n 1 (W1.alloc (.cells #[.int .i64 (n : Int)] 3)) hn (cell_of_blk (heap_alloc_new W1 _) rfl))
  obtain ⟨W2, hW2⟩ : ∃ W2, W2 = W1.alloc (.cells #[.int .i64 (n : Int)] 3) := ⟨_, rfl⟩
  rw [← hW2] at KBy b2
  have HW2 := hide hW2
  have HSZ : Hid (decide (262144 < n) = false → N ≤ 1048576 ∧ ∀ x ∈ T, x.un.length ≤ 1048576) := fun q => by
    have hle : n ≤ 262144 := by simpa using q
    have hs := hsum hle
    have := unhide HN
    exact ⟨by omega, fun x hx => by have := usum_mem hx; omega⟩
  clear hW2 KT HW hn b1 hsum
  generalize decide (262144 < n) = by_ at *
  obtain ⟨c0, hbw⟩ := unhide HB _ b2
  go_wp2_with fail
  rw [← unhide HW2]
  refine (unhide KBy).mono ?_
  rintro e W2 ⟨rfl, rfl⟩
  clear KBy HW2
  cases by_
  rotate_left
  · go_wp2_with fail
    go_ret
    exact ⟨rfl, hbw⟩
  have hsz := unhide HSZ rfl
  have HSZ2 : Hid (T.length ≤ 1048576 ∧ ∀ x ∈ T, x.un.length ≤ 1048576) := ⟨by rw [← unhide HN]; exact hsz.1, hsz.2⟩
  have KTw : Hid (Calls Tryz.prog 9 #[.agg #[.slice a N c]] W2 fun e w' => ∃ g us, e = .returned (.agg #[.slice (some ⟨g, 0, none⟩) N (N + 2)]) ∧ TwT W2.heap.size w' g T us ∧ Below W2.heap.size W2 w') := by
    have := twinTree_any W2 _ T (unhide HH _ hbw).1 (unhide HSZ2).1 (unhide HSZ2).2
    rw [← unhide HN] at this
    exact this
  clear hsz HSZ
  go_wp2_with fail
  refine (unhide KTw).mono ?_
  rintro e W3 ⟨G, us, rfl, ht, b3⟩
  have b4 := bw_tr b2 b3
  clear KTw c0 hbw b2
  obtain ⟨WX, hWX⟩ : ∃ WX, WX = W3.alloc (.cells #[.slice (some ⟨G, 0, none⟩) N (N + 2)] 24) := ⟨_, rfl⟩
  have bX : Below W3.heap.size W3 WX := by rw [hWX]; exact bwA _ _
  have bX0 := bw_tr b4 bX
  have HBX : Hid (∀ W, Below WX.heap.size WX W → W.cell? ⟨W3.heap.size, 0, none⟩ = some (.slice (some ⟨G, 0, none⟩) N (N + 2)) ∧ W.cell? ⟨w.heap.size, 0, none⟩ = some (.slice a N c) ∧ Below w.heap.size w W) := fun W hW =>
    ⟨by subst hWX; exact bx_cell hW, (unhide HB _ (bw_tr bX0 hW)).1, (unhide HB _ (bw_tr bX0 hW)).2⟩
  have HTW : Hid (∀ W, Below WX.heap.size WX W → TwT W2.heap.size W G T us) := fun W hW => (ht.bw bX).bw hW
  have HTR : Hid (∀ W, Below WX.heap.size WX W → Trd W (.slice (some ⟨G, 0, none⟩) N (N + 2)) T) := fun W hW => by
    have := ((unhide HTW W hW).otr (unhide HSZ2).2).trd (by have := (unhide HSZ2).1; omega) (fun x hx => by have := (unhide HSZ2).2 x hx; omega)
    rw [← unhide HN] at this
    exact this
  have HTb : Hid (∀ W, Below WX.heap.size WX W → Tab W) := fun W hW => (unhide HH _ (unhide HBX _ hW).2.2).2
  obtain ⟨CV, hCV⟩ : ∃ CV : Int, CV = if mayB T = true then 0 else 1 := ⟨_, rfl⟩
  obtain ⟨SV, hSV⟩ : ∃ SV : Int, SV = if mayB T = true then ((nlv T : Nat) : Int) else 0 := ⟨_, rfl⟩
  obtain ⟨FV, hFV⟩ : ∃ FV : Int, FV = if mayB T = true then fnd T mm else -1 := ⟨_, rfl⟩
  obtain ⟨ML, hML⟩ : ∃ ML : List Int, ML = if mayB T = true then mems T else [] := ⟨_, rfl⟩
  have HML : Hid (ML.length ≤ 8) := by
    unfold Hid; rw [hML]; split
    · next q => exact mems_len8 q
    · simp
  have KC : Hid (∀ W, Below WX.heap.size WX W → Calls Tryz.prog 10 #[.agg #[.slice (some ⟨G, 0, none⟩) N (N + 2)]] W fun e w' => e = .returned (.int .i64 CV) ∧ Below W.heap.size W w') := fun W hW => by rw [hCV]; exact check_any (unhide HTR W hW) (unhide HTb W hW)
  have KS : Hid (∀ W, Below WX.heap.size WX W → Calls Tryz.prog 11 #[.agg #[.slice (some ⟨G, 0, none⟩) N (N + 2)]] W fun e w' => e = .returned (.int .i64 SV) ∧ Below W.heap.size W w') := fun W hW => by rw [hSV]; exact size_any (unhide HTR W hW) (unhide HTb W hW)
  have KF : Hid (∀ W, Below WX.heap.size WX W → Calls Tryz.prog 12 #[.agg #[.slice (some ⟨G, 0, none⟩) N (N + 2)], .int .i64 mm] W fun e w' => e = .returned (.int .i64 FV) ∧ Below W.heap.size W w') := fun W hW => by rw [hFV]; exact findX_any (unhide HTR W hW) (unhide HTb W hW) mm
  have KM : Hid (∀ W, Below WX.heap.size WX W → Calls Tryz.prog 13 #[.agg #[.slice (some ⟨G, 0, none⟩) N (N + 2)]] W fun e w' => ∃ r, e = .returned r ∧ Ints W.heap.size w' r ML ∧ Below W.heap.size W w') := fun W hW => by rw [hML]; exact membersX_any (unhide HTR W hW) (unhide HTb W hW)
  have HHX : Hid (∀ W, Below WX.heap.size WX W → Trd W (.slice a N c) T) := fun W hW => (unhide HH _ (unhide HBX _ hW).2.2).1
  have RC : Hid (∀ W, Below WX.heap.size WX W → Calls Tryz.prog 15 #[.agg #[.slice a N c]] W fun e w' => e = .returned (.int .i64 CV) ∧ Below W.heap.size W w') := fun W hW => by rw [hCV]; exact rcheck_any (unhide HHX W hW)
  have RS : Hid (∀ W, Below WX.heap.size WX W → Calls Tryz.prog 16 #[.agg #[.slice a N c]] W fun e w' => e = .returned (.int .i64 SV) ∧ Below W.heap.size W w') := fun W hW => by rw [hSV]; exact rsize_any (unhide HHX W hW)
  have RF : Hid (∀ W, Below WX.heap.size WX W → Calls Tryz.prog 17 #[.agg #[.slice a N c], .int .i64 mm] W fun e w' => e = .returned (.int .i64 FV) ∧ Below W.heap.size W w') := fun W hW => by rw [hFV]; exact rfind_any (unhide HHX W hW) mm
  have RM : Hid (∀ W, Below WX.heap.size WX W → Calls Tryz.prog 14 #[.agg #[.slice a N c]] W fun e w' => ∃ r, e = .returned r ∧ Ints W.heap.size w' r ML ∧ Below W.heap.size W w') := fun W hW => by rw [hML]; exact rmembers_any (unhide HHX W hW)
  have RL : Hid (∀ W, Below WX.heap.size WX W → Calls Tryz.prog 19 #[.agg #[.slice (some ⟨G, 0, none⟩) N (N + 2)], .agg #[.slice a N c]] W fun e w' => e = .returned (.bool true) ∧ Below W.heap.size W w') := fun W hW => by
    have := leftTree_any W W2.heap.size G _ T us (unhide HTW W hW) (unhide HHX W hW) (unhide HSZ2).1 (unhide HSZ2).2
    rw [← unhide HN] at this
    exact this
  have HWX : Hid (WX = W3.alloc (.cells #[.slice (some ⟨G, 0, none⟩) N (N + 2)] 24)) := hWX
  clear hWX hCV hSV hFV hML ht b3 b4 bX bX0 HB HH HSZ2 HTW HTR HTb HHX HN
  have x0 : Below WX.heap.size WX WX := Below.refl _ _
  have x0d : Below WX.heap.size WX WX.drew := x0.drew
  have S0 := (unhide HBX _ x0).1
  have S0d := (unhide HBX _ x0d).1
  go_upto_region 4 with fail
  rw [← unhide HWX]
  clear HWX
  first
  | go_region_held3 (fun w' : World => w'.cell? ⟨W3.heap.size, 0, none⟩ = some (.slice (some ⟨G, 0, none⟩) N (N + 2))) (first | with_reducible exact S0 | with_reducible exact S0d | with_reducible exact S1 | with_reducible exact S2 | with_reducible exact S3) (first
      | (go_at_call 12; refine (unhide KF _ x2).mono ?_; rintro e z3 ⟨rfl, y3⟩; have x3 := bw_tr x2 y3; have S3 := (unhide HBX _ x3).1)
      | (go_at_call 11; refine (unhide KS _ x1).mono ?_; rintro e z2 ⟨rfl, y2⟩; have x2 := bw_tr x1 y2; have S2 := (unhide HBX _ x2).1)
      | (go_at_call 10; refine (unhide KC _ x0d).mono ?_; rintro e z1 ⟨rfl, y1⟩; have x1 := bw_tr x0d y1; have S1 := (unhide HBX _ x1).1) | fail)
  | fail
  all_goals
    clear S0 S0d S1 S2 y1 y2 y3 x1 x2 KC KS KF x0 x0d
    have x3d := x3.drew
    have S3d := (unhide HBX _ x3d).1
    go_upto_region 5 with fail
    first
    | go_region_held3 (fun w' : World => w'.cell? ⟨W3.heap.size, 0, none⟩ = some (.slice (some ⟨G, 0, none⟩) N (N + 2))) (first | with_reducible exact S3 | with_reducible exact S3d | with_reducible exact S4 | with_reducible exact S5) (first
        | (go_at_call 13; refine (unhide KM _ x4).mono ?_; rintro e z5 ⟨r5, rfl, i5, y5⟩; have x5 := bw_tr x4 y5; have S5 := (unhide HBX _ x5).1)
        | (go_at_call 13; refine (unhide KM _ x3d).mono ?_; rintro e z4 ⟨r4, rfl, i4, y4⟩; have x4 := bw_tr x3d y4; have S4 := (unhide HBX _ x4).1) | fail)
    | fail
    all_goals
      have j4 : Hid (Ints w.heap.size z5 r4 ML ∧ Ints w.heap.size z5 r5 ML) := ⟨(i4.bw y5).mono (unhide HBX _ x3d).2.2.size, i5.mono (unhide HBX _ x4).2.2.size⟩
      have hap : Hid (∀ (i j : Nat) (u v : Value) (k : Nat), i ≠ j → [r4, r5][i]? = some u → [r4, r5][j]? = some v → u.ownBlock = some k → v.ownBlock ≠ some k) :=
        two_apart (fun k hk => World.ownsRow.lt i4 k hk) (fun k hk => World.ownsRow.lt i5 k hk)
      obtain ⟨a4, c4, e4⟩ := nums_slice i4.nums
      obtain ⟨a5, c5, e5⟩ := nums_slice i5.nums
      subst e4 e5
      clear S3 S3d S4 S5 y4 y5 x3 x3d x4 i4 i5 KM
      obtain ⟨-, cT, -⟩ := unhide HBX _ x5
      go_wp2_with fail
      refine (unhide RM _ x5).mono ?_
      rintro e z6 ⟨r6, rfl, i6, y6⟩
      have x6 := bw_tr x5 y6
      obtain ⟨a6, c6, e6⟩ := nums_slice i6.nums
      subst e6
      have n6 := hide i6.nums
      have k6 : Hid (Ints w.heap.size z6 (.slice a4 ML.length c4) ML ∧ Ints w.heap.size z6 (.slice a5 ML.length c5) ML) := ⟨(unhide j4).1.bw y6, (unhide j4).2.bw y6⟩
      clear i6 j4 y6 cT RM x5
      obtain ⟨ML', hML'⟩ : ∃ M, M = ML.length := ⟨_, rfl⟩
      have HMLn := hide hML'
      rw [← hML'] at n6 k6 hap
      rw [← hML']
      clear hML'
      obtain ⟨-, cT, -⟩ := unhide HBX _ x6
      go_wp2_with fail
      refine (unhide RC _ x6).mono ?_
      rintro e z7 ⟨rfl, y7⟩
      have x7 := bw_tr x6 y7
      clear cT RC
      obtain ⟨-, cT, -⟩ := unhide HBX _ x7
      go_wp2_with fail
      refine (unhide RS _ x7).mono ?_
      rintro e z8 ⟨rfl, y8⟩
      have x8 := bw_tr x7 y8
      have y68 := bw_tr y7 y8
      clear cT RS x7 y7 y8
      obtain ⟨-, cT, -⟩ := unhide HBX _ x8
      go_wp2_with fail
      refine (unhide RF _ x8).mono ?_
      rintro e z9 ⟨rfl, y9⟩
      have x9 := bw_tr x8 y9
      have y69 := bw_tr y68 y9
      clear cT RF x8 y68 y9
      have KA := hide (same_any _ _ ML ML z9 ((unhide k6).1.bw y69).nums ((unhide n6).bw y69))
      rw [decide_eq_true rfl] at KA
      go_wp2_with fail
      refine (unhide KA).mono ?_
      rintro e zA ⟨rfl, yA⟩
      have xA := bw_tr x9 yA
      have y6A := bw_tr y69 yA
      clear KA x9 y69 yA
      have KA := hide (same_any _ _ ML ML zA ((unhide k6).2.bw y6A).nums ((unhide n6).bw y6A))
      rw [decide_eq_true rfl] at KA
      go_wp2_with fail
      refine (unhide KA).mono ?_
      rintro e zB ⟨rfl, yB⟩
      have xB := bw_tr xA yB
      have y6B := bw_tr y6A yB
      clear KA xA y6A yB
      obtain ⟨cX, cT, -⟩ := unhide HBX _ xB
      go_wp2_with fail
      refine (unhide RL _ xB).mono ?_
      rintro e wa ⟨rfl, yC⟩
      have xC := bw_tr xB yC
      have y6C := bw_tr y6B yC
      have ba := (unhide HBX _ xC).2.2
      clear RL xB y6B yC cX cT
      have hsz := ba.size
      go_wp2_with fail
      refine wp_build 70 #[] rfl (by kernel_rfl) ?_
      have hbuilt : (Tryz.prog.built 70 []).getD #[] = bookCells 0 (.slice none 0 0) := by kernel_rfl
      have hzero : ∀ w, (zeroValue 70).run Tryz.prog w = .ok (.agg (bookCells 0 (.slice none 0 0))) w := fun w => by kernel_rfl
      have hall : (bookCells 0 (.slice none 0 0)).all (·.oneCell') = true := by kernel_rfl
      have hsz62 : (Tryz.prog.info? 70).map (·.size) = some (bookCells 0 (.slice none 0 0)).size := by kernel_rfl
      simp only [List.map_toArray, List.map_nil, hbuilt]
      go_wp2_with (refine wpList_store_row rfl 70 (.tmp 12) (.tmp 67) rfl wa.heap.size (bookCells 0 (.slice none 0 0)) rfl rfl 70 (bookCells 0 (.slice none 0 0)) (heap_alloc_new _ _) hsz62 rfl hall ?_)
      obtain ⟨W, hW⟩ : ∃ W, W = (wa.alloc (.cells (bookCells 0 (.slice none 0 0)) 70)).setRow wa.heap.size (bookCells 0 (.slice none 0 0)) := ⟨_, rfl⟩
      have hblk : W.heap[wa.heap.size]? = some (.cells (bookCells 0 (.slice none 0 0)) 70 (0, 0)) := by rw [hW]; exact setRow_new wa _ _ _
      have hWb : Below wa.heap.size wa W := by rw [hW]; exact setRow_below wa _ _ _
      rw [← hW]
      clear hW
      obtain ⟨b, hb⟩ : ∃ b, b = wa.heap.size := ⟨_, rfl⟩
      rw [← hb] at hblk ⊢
      have hbB : w.heap.size ≤ b := by omega
      have k0 : Bk w.heap.size W b (.slice none 0 0) [] := ⟨hblk, World.ownsRow_nil _ _ _ _⟩
      have e6 := bw_tr y6C hWb
      have bW := bw_tr ba hWb
      have j1 := (unhide k6).1.bw e6
      have j2 := (unhide k6).2.bw e6
      have s0 := bW.size
      clear hblk hWb hb ba hsz k6 n6 y6C xC x6 HBX
      have N1 := numbers_any w.heap.size b _ [] a4 ML' c4 W k0 s0 (by simp)
      go_wp2_with fail
      refine N1.mono ?_
      rintro e wb ⟨rfl, lv1, k1, f1, _⟩
      have b1 := fr_below k0 hbB f1 s0
      have s1 := Nat.le_trans s0 f1.size
      have N2 := numbers_any w.heap.size b _ _ a5 ML' c5 wb k1 s1 (by simp)
      go_wp2_with fail
      refine N2.mono ?_
      rintro e wc ⟨rfl, lv2, k2, f2, _⟩
      have b2 := fr_below k1 hbB f2 s1
      have s2 := Nat.le_trans s1 f2.size
      have m1 := (j1.keep k0 f1).keep k1 f2
      have m2 := (j2.keep k0 f1).keep k1 f2
      have hH : Hl w.heap.size wc b lv2 [.slice a4 ML' c4, .slice a5 ML' c5] [ML, ML] := ⟨k2, rfl, two_rows m1 m2, unhide hap⟩
      have A := apart_any w.heap.size b lv2 _ _ wc hH (by simp) (by simp) (fun l hl => by have := unhide HML; simp at hl; subst hl; omega) s2
      have bC := (bW.trans b1).trans b2
      clear N1 N2 k0 k1 k2 m1 m2 j1 j2 f1 f2 b1 b2 hH e6 bW s0 s1 s2 hap
      go_wp2_with fail
      refine A.mono ?_
      rintro e wf ⟨rfl, bF⟩
      have bG := bC.trans bF
      go_wp2_with fail
      refine (unhide KE wf bG).mono ?_
      rintro e w9 ⟨rfl, hb9⟩
      go_wp2
      go_ret
      exact ⟨rfl, hb9⟩
end Go.Proofs.YtocopmbdjopljaaGreatDoor
