/- TreeAsks, the walk. -/
import Derived.Test.YtaanacnloljlmaaGreatDoorTrLawTurns
import Derived.Test.YtaanacnloljlmaaGreatDoorZ20
import Derived.Test.YtaanacnloljlmaaGreatDoorTeS
import Derived.Test.YtaanacnloljlmaaGreatDoorZ06
import Derived.Test.YtaanacnloljlmaaGreatDoorZ22
namespace Go.Proofs.YtaanacnloljlmaaGreatDoor
open Go.RowKit Go.Maps

/-- Numbers that were answered, of one's own. -/
structure Va (B H : Nat) (W : World) (v : Value) (l : List Int) : Prop where
  row : Ints B W v l
  lt : ∀ k, v.ownBlock = some k → k < H
structure Vr (B H : Nat) (W : World) (v : Value) (ls : List (List Int)) (us : List Value) : Prop where
  row : RR B W v ls us
  lt : ∀ (i : Nat) (u : Value) (k : Nat), us[i]? = some u → u.ownBlock = some k → k < H
theorem Va.of {B : Nat} {W : World} {v : Value} {l : List Int} (h : Ints B W v l) : Va B W.heap.size W v l := ⟨h, fun k hk => (World.ownsRow.lt h k hk).2⟩
theorem Va.bw {B H : Nat} {W W' : World} {v : Value} {l : List Int} (h : Va B H W v l) (hb : Below W.heap.size W W') : Va B H W' v l := ⟨h.row.bw hb, h.lt⟩
theorem Va.tf {B H : Nat} {W W' : World} {v : Value} {l : List Int} {ts : List TypeId} {B' : Nat} (h : Va B H W v l) (ht : Tf ts B' W W') (hi : 3 ∉ ts) : Va B H W' v l := ⟨ht.own h.row hi, h.lt⟩
theorem Vr.of {B : Nat} {W : World} {v : Value} {ls : List (List Int)} {us : List Value} (h : RR B W v ls us) : Vr B W.heap.size W v ls us := ⟨h, fun _ _ _ hu hk => (h.lt (mem_rrB.2 ⟨_, _, hu, hk⟩)).2⟩
theorem Vr.bw {B H : Nat} {W W' : World} {v : Value} {ls : List (List Int)} {us : List Value} (h : Vr B H W v ls us) (hb : Below W.heap.size W W') : Vr B H W' v ls us := ⟨h.row.bw hb, h.lt⟩
theorem Vr.tf {B H : Nat} {W W' : World} {v : Value} {ls : List (List Int)} {us : List Value} {ts : List TypeId} {B' : Nat} (h : Vr B H W v ls us) (ht : Tf ts B' W W') (h1 : 31 ∉ ts) (h2 : 3 ∉ ts) : Vr B H W' v ls us := ⟨h.row.tf ht h1 h2, h.lt⟩
theorem asks_bnd (T : List Nd) (x : Int) (fl : List Int) : (if resE T x = 0 then rsl T x.toNat else []).length ≤ 72 ∧ (if askE T x = 0 then pth T x.toNat else []).length ≤ 3 ∧ (tgtR T x fl).length ≤ 3 ∧ ∀ l ∈ tgtR T x fl, l.length ≤ 72 := by
  refine ⟨?_, ?_⟩
  · split
    · next h =>
      unfold resE at h
      cases hm : mayB T
      · rw [if_pos hm] at h; cases h
      · rw [if_neg (by simp [hm])] at h
        split at h
        · cases h
        · next q =>
          have ok := mayB_okn hm (by omega)
          obtain ⟨g1, g2, g3, g4, g5⟩ := ok.wd.facts
          exact rsl_72 ok.wd ok.sm (by omega)
    · simp
  · unfold tgtR
    by_cases hE : askE T x = 0
    · rw [if_pos hE, if_pos hE]
      obtain ⟨hm, n, rfl, hn⟩ := askE_zero hE
      have ok := mayB_okn hm (nlv_pos (by omega))
      obtain ⟨g1, g2, g3, g4, g5⟩ := ok.wd.facts
      obtain ⟨d1, d2, d3, d4, d5, d6⟩ := up_of g1 hn
      have d7 := up_len g1 hn
      have hP : (prs T n).length ≤ 3 := by
        rw [prs_eq]
        refine Nat.le_trans (prsL_len T _) ?_
        simp
        omega
      rw [Int.toNat_natCast]
      refine ⟨by unfold pth; rw [List.length_map]; exact hP, by unfold tgt oth; rw [List.length_map, List.length_map]; exact hP, fun l hl => ?_⟩
      unfold tgt oth at hl
      obtain ⟨q, hq, rfl⟩ := List.mem_map.1 hl
      obtain ⟨p, hp, rfl⟩ := List.mem_map.1 hq
      rw [prs_eq] at hp
      obtain ⟨s, hs, e⟩ := mem_prsL hp
      have hsd := d6 s (List.of_mem_zip hs).2
      refine Nat.le_trans (List.length_filter_le _ _) ?_
      rw [← e]; exact rsl_72 ok.wd ok.sm (by omega)
    · rw [if_neg hE, if_neg hE]; simp
set_option maxRecDepth 100000 in
set_option maxHeartbeats 8000000 in
theorem TreeAsks_walk (w : World) (v pv : Value) (T : List Nd) (ps : List Int) (h : Trd w v T) (hpv : Nums w pv ps) (hpl : ps.length ≤ 140737488355328) (hT : Tab w) (li : Int) :
    Calls Tryz.prog 4 #[.agg #[v], .int .i64 li, pv] w fun e w' => e = .returned (.bool true) ∧ Below w.heap.size w w' := by
  obtain ⟨a, c, rfl⟩ := h.slice
  obtain ⟨pa, pc, rfl⟩ := nums_slice hpv
  obtain ⟨W0, hW0⟩ : ∃ W0, W0 = bxw w (.slice a T.length c) := ⟨_, rfl⟩
  have hb0 : Below w.heap.size w W0 := by rw [hW0]; exact bwA _ _
  have HB : Hid (∀ W, Below W0.heap.size W0 W → W.cell? ⟨w.heap.size, 0, none⟩ = some (.slice a T.length c) ∧ Below w.heap.size w W) := fun W hW => by subst hW0; exact ⟨bx_cell hW, bx_bel hW⟩
  have HH : Hid (∀ W, Below w.heap.size w W → Trd W (.slice a T.length c) T ∧ Tab W ∧ Nums W (.slice pa ps.length pc) ps) := fun W hW => ⟨h.bw hW, hT.bw hW, hpv.bw hW⟩
  have KE : Hid (∀ W, Below w.heap.size w W → Calls Tryz.prog 21 #[] W fun e w' => e = .returned (.bool true) ∧ Below w.heap.size w w') := fun W hW => alive_end9 hT hW
  have KT := hide (treeSize2_any (h.bw hb0))
  have HW : Hid (W0 = w.alloc (.cells #[.slice a T.length c] 24)) := hW0
  clear h hT hW0 hpv
  obtain ⟨N, hN⟩ : ∃ N, N = T.length := ⟨_, rfl⟩
  rw [← hN] at HB HH HW KT ⊢
  have HN := hide hN
  clear hN
  obtain ⟨PL, hPL⟩ : ∃ PL, PL = ps.length := ⟨_, rfl⟩
  rw [← hPL] at HH hpl ⊢
  have HPL := hide hPL
  clear hPL
  go_enter Tryz.func4, Tryz.ntmps4
  go_wp2_with fail
  rw [← unhide HW]
  refine (unhide KT).mono ?_
  rintro e W1 ⟨n, rfl, hn, hsum, b1⟩
  have b2 : Below W0.heap.size W0 (W1.alloc (.cells #[.int .i64 (n : Int), .int .i64 (PL : Int)] 3)) := b1.alloc b1.size _
  have KBy := hide (beyond9 W1.heap.size n PL 2 (W1.alloc (.cells #[.int .i64 (n : Int), .int .i64 (PL : Int)] 3)) hn (by omega) (cell_of_blk (heap_alloc_new W1 _) rfl) (cell_of_blk (heap_alloc_new W1 _) rfl))
  obtain ⟨W2, hW2⟩ : ∃ W2, W2 = W1.alloc (.cells #[.int .i64 (n : Int), .int .i64 (PL : Int)] 3) := ⟨_, rfl⟩
  rw [← hW2] at KBy b2
  have HW2 := hide hW2
  have HSM := hide hsum
  clear hW2 KT HW hn b1 hsum
  obtain ⟨c0, hbw⟩ := unhide HB _ b2
  go_wp2_with fail
  rw [← unhide HW2]
  refine (unhide KBy).mono ?_
  rintro e W2 ⟨by_, rfl, hby, rfl⟩
  clear KBy HW2
  cases by_
  rotate_left
  · clear hby
    go_wp2_with fail
    go_ret
    exact ⟨rfl, hbw⟩
  obtain ⟨hle, hpl2⟩ := hby rfl
  have HSZ2 : Hid (T.length ≤ 262144 ∧ ∀ x ∈ T, x.un.length ≤ 1048576) := by
    have hs := unhide HSM hle
    have := unhide HN
    exact ⟨by omega, fun x hx => by have := usum_mem hx; omega⟩
  have hPLI : (PL : Int) ≤ 262144 := by omega
  have KTw : Hid (Calls Tryz.prog 8 #[.agg #[.slice a N c]] W2 fun e w' => ∃ g us, e = .returned (.agg #[.slice (some ⟨g, 0, none⟩) N (N + 2)]) ∧ TwT W2.heap.size w' g T us ∧ Below W2.heap.size W2 w') := by
    have := twinTree_any W2 _ T (unhide HH _ hbw).1 (by have := (unhide HSZ2).1; omega) (unhide HSZ2).2
    rw [← unhide HN] at this
    exact this
  have hbw2 := hbw.size
  clear hby hle HSM
  go_wp2_with fail
  refine (unhide KTw).mono ?_
  rintro e W3 ⟨G, us, rfl, ht, b3⟩
  have b4 := bw_tr b2 b3
  obtain ⟨WX, hWX⟩ : ∃ WX, WX = W3.alloc (.cells #[.slice (some ⟨G, 0, none⟩) N (N + 2)] 24) := ⟨_, rfl⟩
  have bX : Below W3.heap.size W3 WX := by rw [hWX]; exact bwA _ _
  have bX0 := bw_tr b4 bX
  have HV0 : Hid (Vt W2.heap.size WX.heap.size WX W3.heap.size (.slice (some ⟨G, 0, none⟩) N (N + 2)) T us) := by
    have ho := ht.otr (unhide HSZ2).2
    rw [← unhide HN] at ho
    have := Vt.new ho
    rw [← hWX] at this
    exact ⟨this.blk, this.tr, fun k hk => Nat.lt_of_lt_of_le (this.lt k hk) bX.size, fun i u k hu hk => Nat.lt_of_lt_of_le (this.ltu i u k hu hk) bX.size⟩
  have HTW : Hid (TwT W2.heap.size WX G T us) := ht.bw bX
  have HBX : Hid (∀ W, Below WX.heap.size WX W → W.cell? ⟨w.heap.size, 0, none⟩ = some (.slice a N c) ∧ Below w.heap.size w W) := fun W hW => unhide HB _ (bw_tr bX0 hW)
  have HTR : Hid (∀ W, Below WX.heap.size WX W → Trd W (.slice (some ⟨G, 0, none⟩) N (N + 2)) T ∧ Tab W ∧ Trd W (.slice a N c) T ∧ Nums W (.slice pa PL pc) ps) := fun W hW => by
    have := ((unhide HTW).bw hW).otr (unhide HSZ2).2
    have := this.trd (by have := (unhide HSZ2).1; omega) (fun x hx => by have := (unhide HSZ2).2 x hx; omega)
    rw [← unhide HN] at this
    have hh := unhide HH _ (unhide HBX _ hW).2
    exact ⟨this, hh.2.1, hh.1, hh.2.2⟩
  have RL : Hid (∀ W, Below WX.heap.size WX W → Calls Tryz.prog 18 #[.agg #[.slice (some ⟨G, 0, none⟩) N (N + 2)], .agg #[.slice a N c]] W fun e w' => e = .returned (.bool true) ∧ Below W.heap.size W w') := fun W hW => by
    have := leftTree_any W W2.heap.size G _ T us ((unhide HTW).bw hW) (unhide HTR W hW).2.2.1 (by have := (unhide HSZ2).1; omega) (unhide HSZ2).2
    rw [← unhide HN] at this
    exact this
  have HWX : Hid (WX = W3.alloc (.cells #[.slice (some ⟨G, 0, none⟩) N (N + 2)] 24)) := hWX
  have HS2 : Hid (w.heap.size ≤ W2.heap.size ∧ W2.heap.size ≤ WX.heap.size) := ⟨hbw2, by have := b3.size; have := bX.size; omega⟩
  obtain ⟨vb, hvb⟩ : ∃ vb, vb = W3.heap.size := ⟨_, rfl⟩
  rw [← hvb] at HV0
  have HVB := hide hvb
  -- the plain answers
  obtain ⟨A, hA⟩ : ∃ A, A = (if resE T li = 0 then rsl T li.toNat else []) := ⟨_, rfl⟩
  obtain ⟨P, hP⟩ : ∃ P, P = (if askE T li = 0 then pth T li.toNat else []) := ⟨_, rfl⟩
  obtain ⟨C, hC⟩ : ∃ C, C = tgtR T li ps := ⟨_, rfl⟩
  obtain ⟨EA, hEA⟩ : ∃ E : Int, E = resE T li := ⟨_, rfl⟩
  obtain ⟨EP, hEP⟩ : ∃ E : Int, E = askE T li := ⟨_, rfl⟩
  have hbnd : Hid (A.length ≤ 72 ∧ P.length ≤ 3 ∧ C.length ≤ 3 ∧ ∀ l ∈ C, l.length ≤ 72) := by unfold Hid; rw [hA, hP, hC]; exact asks_bnd T li ps
  have hps : ps.length ≤ 140737488355328 := by have := unhide HPL; omega
  have K1 : Hid (∀ W, Below WX.heap.size WX W → Calls Tryz.prog 22 #[.agg #[.slice (some ⟨G, 0, none⟩) N (N + 2)], .int .i64 li] W fun e w' => ∃ r, e = .returned (.tuple #[r, .int .i64 EA]) ∧ Ints W.heap.size w' r A ∧ Below W.heap.size W w') := fun W hW => by rw [hEA, hA]; exact resolutionX_any (unhide HTR W hW).1 (unhide HTR W hW).2.1 li
  have K2 : Hid (∀ W, Below WX.heap.size WX W → Calls Tryz.prog 23 #[.agg #[.slice (some ⟨G, 0, none⟩) N (N + 2)], .int .i64 li] W fun e w' => ∃ r, e = .returned (.tuple #[r, .int .i64 EP]) ∧ Ints W.heap.size w' r P ∧ Below W.heap.size W w') := fun W hW => by rw [hEP, hP]; exact pathX_any (unhide HTR W hW).1 (unhide HTR W hW).2.1 li
  have K3 : Hid (∀ W, Below WX.heap.size WX W → Calls Tryz.prog 24 #[.agg #[.slice (some ⟨G, 0, none⟩) N (N + 2)], .int .i64 li, .slice pa PL pc] W fun e w' => ∃ r us, e = .returned (.tuple #[r, .int .i64 EP]) ∧ RR W.heap.size w' r C us ∧ Below W.heap.size W w') := fun W hW => by rw [hEP, hC]; exact targets_any (unhide HTR W hW).1 (unhide HTR W hW).2.2.2 (unhide HTR W hW).2.1 li
  have K4 : Hid (∀ W, Below WX.heap.size WX W → Calls Tryz.prog 25 #[.agg #[.slice a N c], .int .i64 li] W fun e w' => ∃ r, e = .returned (.tuple #[r, .int .i64 EA]) ∧ Ints W.heap.size w' r A ∧ Below W.heap.size W w') := fun W hW => by rw [hEA, hA]; exact rresX_any (unhide HTR W hW).2.2.1 li
  have K5 : Hid (∀ W, Below WX.heap.size WX W → Calls Tryz.prog 26 #[.agg #[.slice a N c], .int .i64 li] W fun e w' => ∃ r, e = .returned (.tuple #[r, .int .i64 EP]) ∧ Ints W.heap.size w' r P ∧ Below W.heap.size W w') := fun W hW => by rw [hEP, hP]; exact rpath_any (unhide HTR W hW).2.2.1 li
  have K6 : Hid (∀ W, Below WX.heap.size WX W → Calls Tryz.prog 27 #[.agg #[.slice a N c], .int .i64 li, .slice pa PL pc] W fun e w' => ∃ r us, e = .returned (.tuple #[r, .int .i64 EP]) ∧ RR W.heap.size w' r C us ∧ Below W.heap.size W w') := fun W hW => by rw [hEP, hC]; exact rtargets_any (unhide HTR W hW).2.2.1 (unhide HTR W hW).2.2.2 hps li
  clear hA hP hC hEA hEP hps hWX ht b3 b4 bX bX0 HB HH HTW hbw2 hvb HTR
  have x0 : Below WX.heap.size WX WX := Below.refl _ _
  have V0 : Hid (Vt W2.heap.size WX.heap.size WX vb (.slice (some ⟨G, 0, none⟩) N (N + 2)) T us) := HV0
  clear HV0
  go_upto_region 4 with fail
  rw [← unhide HVB, ← unhide HWX]
  clear HWX HVB
  have cI := (unhide V0).cell
  go_wp2_with fail
  refine (unhide K1 _ x0).mono ?_
  rintro e Y1 ⟨rVA, rfl, oVA, y⟩
  obtain ⟨aVA, cVA, re⟩ := own_slice oVA
  subst re
  replace V0 := hide ((unhide V0).bw y)
  have VA := hide (Va.of oVA)
  have zVA : Hid (WX.heap.size ≤ Y1.heap.size) := y.size
  have xn := bw_tr x0 y
  clear x0 cI K1 oVA y
  have x0 := xn
  clear xn
  have cI := (unhide V0).cell
  go_wp2_with fail
  refine (unhide K2 _ x0).mono ?_
  rintro e Y2 ⟨rVP, rfl, oVP, y⟩
  obtain ⟨aVP, cVP, re⟩ := own_slice oVP
  subst re
  replace V0 := hide ((unhide V0).bw y)
  replace VA := hide ((unhide VA).bw y)
  have VP := hide (Va.of oVP)
  have zVP : Hid (Y1.heap.size ≤ Y2.heap.size) := y.size
  have xn := bw_tr x0 y
  clear x0 cI K2 oVP y
  have x0 := xn
  clear xn
  have cI := (unhide V0).cell
  go_wp2_with fail
  refine (unhide K3 _ x0).mono ?_
  rintro e Y3 ⟨rVC, usVC, rfl, oVC, y⟩
  obtain ⟨aVC, cVC, re⟩ := own_slice oVC.row
  subst re
  replace V0 := hide ((unhide V0).bw y)
  replace VA := hide ((unhide VA).bw y)
  replace VP := hide ((unhide VP).bw y)
  have VC := hide (Vr.of oVC)
  have zVC : Hid (Y2.heap.size ≤ Y3.heap.size) := y.size
  have xn := bw_tr x0 y
  clear x0 cI K3 oVC y
  have x0 := xn
  clear xn
  obtain ⟨cI, -⟩ := unhide HBX _ x0
  go_wp2_with fail
  refine (unhide K4 _ x0).mono ?_
  rintro e Y4 ⟨rRA, rfl, oRA, y⟩
  obtain ⟨aRA, cRA, re⟩ := own_slice oRA
  subst re
  replace V0 := hide ((unhide V0).bw y)
  replace VA := hide ((unhide VA).bw y)
  replace VP := hide ((unhide VP).bw y)
  replace VC := hide ((unhide VC).bw y)
  have RA := hide (Va.of oRA)
  have zRA : Hid (Y3.heap.size ≤ Y4.heap.size) := y.size
  have xn := bw_tr x0 y
  clear x0 cI K4 oRA y
  have x0 := xn
  clear xn
  obtain ⟨cI, -⟩ := unhide HBX _ x0
  go_wp2_with fail
  refine (unhide K5 _ x0).mono ?_
  rintro e Y5 ⟨rRP, rfl, oRP, y⟩
  obtain ⟨aRP, cRP, re⟩ := own_slice oRP
  subst re
  replace V0 := hide ((unhide V0).bw y)
  replace VA := hide ((unhide VA).bw y)
  replace VP := hide ((unhide VP).bw y)
  replace VC := hide ((unhide VC).bw y)
  replace RA := hide ((unhide RA).bw y)
  have RP := hide (Va.of oRP)
  have zRP : Hid (Y4.heap.size ≤ Y5.heap.size) := y.size
  have xn := bw_tr x0 y
  clear x0 cI K5 oRP y
  have x0 := xn
  clear xn
  obtain ⟨cI, -⟩ := unhide HBX _ x0
  go_wp2_with fail
  refine (unhide K6 _ x0).mono ?_
  rintro e Y6 ⟨rRC, usRC, rfl, oRC, y⟩
  obtain ⟨aRC, cRC, re⟩ := own_slice oRC.row
  subst re
  replace V0 := hide ((unhide V0).bw y)
  replace VA := hide ((unhide VA).bw y)
  replace VP := hide ((unhide VP).bw y)
  replace VC := hide ((unhide VC).bw y)
  replace RA := hide ((unhide RA).bw y)
  replace RP := hide ((unhide RP).bw y)
  have RC := hide (Vr.of oRC)
  have zRC : Hid (Y5.heap.size ≤ Y6.heap.size) := y.size
  have xn := bw_tr x0 y
  clear x0 cI K6 oRC y
  have x0 := xn
  clear xn
  have kS : ∀ (va vb : Value) (l : List Int) (W : World), Nums W va l → Nums W vb l → Calls Tryz.prog 17 #[va, vb] W fun e w' => e = .returned (.bool true) ∧ Below W.heap.size W w' := fun va vb l W h1 h2 => by
    have := same_any va vb l l W h1 h2
    rw [decide_eq_true rfl] at this
    exact this
  have HKS := hide kS
  clear kS
  have KS := hide (unhide HKS _ _ A _ (unhide VA).row.nums (unhide RA).row.nums)
  go_wp2_with fail
  refine (unhide KS).mono ?_
  rintro e S1 ⟨rfl, y⟩
  replace V0 := hide ((unhide V0).bw y)
  replace VA := hide ((unhide VA).bw y)
  replace VP := hide ((unhide VP).bw y)
  replace VC := hide ((unhide VC).bw y)
  replace RA := hide ((unhide RA).bw y)
  replace RP := hide ((unhide RP).bw y)
  replace RC := hide ((unhide RC).bw y)
  have xn := bw_tr x0 y
  clear x0 KS y
  have x0 := xn
  clear xn
  have KS := hide (unhide HKS _ _ P _ (unhide VP).row.nums (unhide RP).row.nums)
  go_wp2_with fail
  refine (unhide KS).mono ?_
  rintro e S2 ⟨rfl, y⟩
  replace V0 := hide ((unhide V0).bw y)
  replace VA := hide ((unhide VA).bw y)
  replace VP := hide ((unhide VP).bw y)
  replace VC := hide ((unhide VC).bw y)
  replace RA := hide ((unhide RA).bw y)
  replace RP := hide ((unhide RP).bw y)
  replace RC := hide ((unhide RC).bw y)
  have xn := bw_tr x0 y
  clear x0 KS y
  have x0 := xn
  clear xn
  have KS := hide (sameRows_eq (unhide VC).row (unhide RC).row (by have := (unhide hbnd).2.2.1; omega))
  go_wp2_with fail
  refine (unhide KS).mono ?_
  rintro e S3 ⟨rfl, y⟩
  replace V0 := hide ((unhide V0).bw y)
  replace VA := hide ((unhide VA).bw y)
  replace VP := hide ((unhide VP).bw y)
  replace VC := hide ((unhide VC).bw y)
  replace RA := hide ((unhide RA).bw y)
  replace RP := hide ((unhide RP).bw y)
  replace RC := hide ((unhide RC).bw y)
  have xn := bw_tr x0 y
  clear x0 KS y
  have x0 := xn
  clear xn
  have cV0 := (unhide V0).cell
  obtain ⟨cT, -⟩ := unhide HBX _ x0
  go_wp2_with fail
  refine (unhide RL _ x0).mono ?_
  rintro e wa ⟨rfl, y⟩
  replace V0 := hide ((unhide V0).bw y)
  replace VA := hide ((unhide VA).bw y)
  replace VP := hide ((unhide VP).bw y)
  replace VC := hide ((unhide VC).bw y)
  replace RA := hide ((unhide RA).bw y)
  replace RP := hide ((unhide RP).bw y)
  replace RC := hide ((unhide RC).bw y)
  have xn := bw_tr x0 y
  clear x0 y cV0 cT RL RA RP RC HKS
  have ba := (unhide HBX _ xn).2
  have hszx := xn.size
  clear HBX xn
  have hsz := ba.size
  go_wp2_with fail
  refine wp_build 70 #[] rfl (by kernel_rfl) ?_
  have hbuilt : (Tryz.prog.built 70 []).getD #[] = bookF 0 (fun _ => .slice none 0 0) := by kernel_rfl
  have hzero : ∀ w, (zeroValue 70).run Tryz.prog w = .ok (.agg (bookF 0 (fun _ => .slice none 0 0))) w := fun w => by kernel_rfl
  have hall : (bookF 0 (fun _ => .slice none 0 0)).all (·.oneCell') = true := by kernel_rfl
  have hsz62 : (Tryz.prog.info? 70).map (·.size) = some (bookF 0 (fun _ => .slice none 0 0)).size := by kernel_rfl
  simp only [List.map_toArray, List.map_nil, hbuilt]
  generalize hBF : bookF 0 (fun _ => .slice none 0 0) = BF at hbuilt hzero hall hsz62 ⊢
  go_upto_region 13 with (refine wpList_store_row rfl 70 (.tmp 20) (.tmp 104) rfl wa.heap.size BF rfl rfl 70 BF (heap_alloc_new _ _) hsz62 rfl hall ?_)
  obtain ⟨W, hW⟩ : ∃ W, W = (wa.alloc (.cells BF 70)).setRow wa.heap.size BF := ⟨_, rfl⟩
  have hblk : W.heap[wa.heap.size]? = some (.cells BF 70 (0, 0)) := by rw [hW]; exact setRow_new9 wa _ _ _
  have hWb : Below wa.heap.size wa W := by rw [hW]; exact setRow_below9 wa _ _ _
  rw [← hW]
  clear hW hbuilt hzero hall hsz62
  obtain ⟨b, hb⟩ : ∃ b, b = wa.heap.size := ⟨_, rfl⟩
  rw [← hb] at hblk ⊢
  have hbB : w.heap.size ≤ b := by omega
  rw [← hBF] at hblk
  clear hBF
  have k0 : Hid (Bo w.heap.size W b 0 W2.heap.size (fun _ => .slice none 0 0) [] [] (fun _ => []) (fun _ => [])) := Bo.start hblk hbB _
  have bW := bw_tr ba hWb
  have s0 := bW.size
  have y := hWb
  replace V0 := hide ((unhide V0).bw y)
  replace VA := hide ((unhide VA).bw y)
  replace VP := hide ((unhide VP).bw y)
  replace VC := hide ((unhide VC).bw y)
  clear hblk hWb hb ba hsz hbB hszx y
  have HL0 : Hid (N = T.length) := HN
  have KB := hide (btree_b w.heap.size b _ W2.heap.size WX.heap.size _ _ _ _ _ _ T _ W (unhide k0) s0 (unhide HS2).1 (unhide V0).tr (unhide HS2).2 (unhide V0).lt (unhide V0).ltu (by have := (unhide HSZ2).1; omega) (unhide HSZ2).2)
  have cV := (unhide V0).cell
  clear k0
  go_wp2_with fail
  refine (unhide KB).mono ?_
  rintro e B0 ⟨rfl, ⟨F0, eN0, eD0, XN0, XD0, k0'⟩, tf⟩
  have k0 := hide k0'
  have bn := bW.trans tf.bel
  clear bW
  have bW := bn
  have sn := bW.size
  clear s0
  have s0 := sn
  replace VA := hide ((unhide VA).tf tf (by decide))
  replace VP := hide ((unhide VP).tf tf (by decide))
  replace VC := hide ((unhide VC).tf tf (by decide) (by decide))
  clear KB cV tf k0' sn bn V0
  have KB := hide (numbers_b w.heap.size b _ Y1.heap.size _ _ _ _ _ _ A _ _ ((unhide k0).up (unhide zVA)) s0 (by have := (unhide HSZ2).1; have := unhide HL0; omega) (by have := unhide hbnd; omega) ((unhide VA).row.mono (by have := unhide HS2; omega)) (unhide VA).lt (fun i y k hy hk hk2 => by
    have q1 := ((unhide k0).cN y (List.mem_of_getElem? hy)).2.2 k hk
    have q2 := (World.ownsRow.lt (unhide VA).row k hk2).1
    omega))
  clear k0
  go_wp2_with fail
  refine (unhide KB).mono ?_
  rintro e B1 ⟨rfl, ⟨F1, XN1, k0'⟩, tf⟩
  have k0 := hide k0'
  have bn := bW.trans tf.bel
  clear bW
  have bW := bn
  have sn := bW.size
  clear s0
  have s0 := sn
  replace VP := hide ((unhide VP).tf tf (by decide))
  replace VC := hide ((unhide VC).tf tf (by decide) (by decide))
  clear KB tf k0' sn bn VA
  have KB := hide (numbers_b w.heap.size b _ Y2.heap.size _ _ _ _ _ _ P _ _ ((unhide k0).up (unhide zVP)) s0 (by have := (unhide HSZ2).1; have := unhide HL0; omega) (by have := unhide hbnd; omega) ((unhide VP).row.mono (by have := unhide HS2; have := unhide zVA; omega)) (unhide VP).lt (fun i y k hy hk hk2 => by
    have q1 := ((unhide k0).cN y (List.mem_of_getElem? hy)).2.2 k hk
    have q2 := (World.ownsRow.lt (unhide VP).row k hk2).1
    omega))
  clear k0
  go_wp2_with fail
  refine (unhide KB).mono ?_
  rintro e B2 ⟨rfl, ⟨F2, XN2, k0'⟩, tf⟩
  have k0 := hide k0'
  have bn := bW.trans tf.bel
  clear bW
  have bW := bn
  have sn := bW.size
  clear s0
  have s0 := sn
  replace VC := hide ((unhide VC).tf tf (by decide) (by decide))
  clear KB tf k0' sn bn VP
  have KB := hide (brows_b w.heap.size b _ Y2.heap.size Y3.heap.size _ _ _ _ _ _ C _ B2 (unhide k0) s0 (by have := unhide HS2; have := unhide zVA; have := unhide zVP; omega) (unhide VC).row (unhide zVC) (unhide VC).lt (by have := (unhide HSZ2).1; have := unhide HL0; have := (unhide hbnd).2.2.1; omega) (fun l hl => by have := (unhide hbnd).2.2.2 l hl; omega))
  clear k0
  go_wp2_with fail
  refine (unhide KB).mono ?_
  rintro e B3 ⟨rfl, ⟨F3, eN3, XN3, eR3, XR3, k3, m1, m2, m3⟩, bb⟩
  have bn := bW.trans bb
  have A_ := hide (apartApNDR_b w.heap.size b _ F3 eN3 XN3 _ _ eR3 XR3 B3 k3 m1 m2 m3)
  clear KB k3 m1 m2 m3 bb bW VC
  go_wp2_with fail
  refine (unhide A_).mono ?_
  rintro e wf ⟨rfl, bF⟩
  have bG := bn.trans bF
  clear A_
  go_wp2_with fail
  refine (unhide KE wf bG).mono ?_
  rintro e w9 ⟨rfl, hb9⟩
  go_wp2
  go_ret
  exact ⟨rfl, hb9⟩
end Go.Proofs.YtaanacnloljlmaaGreatDoor
