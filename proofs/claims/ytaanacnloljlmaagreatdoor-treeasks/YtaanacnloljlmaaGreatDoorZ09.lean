/- Texts joined: TrL TrM TrN. -/
import Derived.Test.YtaanacnloljlmaaGreatDoorZ08
import Derived.Deep.CutRange
/- The contract of Add. -/
namespace Go.Proofs.YtaanacnloljlmaaGreatDoor
open Go.RowKit Go.Maps

def addR (T : List Nd) (m e p : Int) : List Nd := if addE T m e p = 0 then addT T m e p else []
def addA (T : List Nd) (m e p : Int) : Nat := if addE T m e p = 0 then fb T else 0
set_option maxRecDepth 100000 in
set_option maxHeartbeats 8000000 in
theorem add_ok {w : World} {v : Value} {T : List Nd} (h : Trd w v T) (hT : Tab w) (mm ee pp : Int) (hE : addE T mm ee pp = 0) :
    Calls Tryz.prog 149 #[.agg #[v], .agg #[.int .i64 mm, .int .i64 ee, .int .i64 pp]] w fun e w' => ∃ r us, e = .returned (.tuple #[.agg #[r], .int .i64 (fb T : Nat), .int .i64 0]) ∧ OTr w.heap.size w' r (addT T mm ee pp) us ∧ Below w.heap.size w w' := by
  have q : mayB T = true ∧ 0 ≤ mm ∧ 0 ≤ ee ∧ 1 ≤ pp ∧ fnd T mm < 0 ∧ fb T ≠ 8 := by
    unfold addE at hE
    split at hE
    · cases hE
    · rename_i hh
      simp only [not_or, Bool.not_eq_false] at hh
      split at hE
      · cases hE
      · split at hE
        · cases hE
        · exact ⟨hh.1, by omega, by omega, by omega, by omega, by omega⟩
  obtain ⟨qm, q1, q2, q3, q4, q5⟩ := q
  obtain ⟨r1, r2, r3⟩ := wRoom_sizes qm q5
  obtain ⟨d1, d2, d3, d4, d5, d6⟩ := up_of r1 r2
  have d7 := up_len r1 r2
  obtain ⟨a, c, rfl⟩ := h.slice
  obtain ⟨W0, hW0⟩ : ∃ W0, W0 = ((bxw w (.slice a T.length c)).alloc (.cells #[.int .i64 mm, .int .i64 ee, .int .i64 pp] 98)).alloc (.cells #[.slice none 0 0] 24) := ⟨_, rfl⟩
  have hb0 : Below w.heap.size w W0 := by rw [hW0]; exact ((bwA _ _).alloc (by simp) _).alloc (by simp; omega) _
  have hs0 : W0.heap.size = w.heap.size + 3 := by rw [hW0]; simp
  have HB : Hid (∀ W, Below W0.heap.size W0 W → W.cell? ⟨w.heap.size, 0, none⟩ = some (.slice a T.length c) ∧ (W.cell? ⟨w.heap.size + 1, 0, none⟩ = some (.int .i64 mm) ∧ W.cell? ⟨w.heap.size + 1, 1, none⟩ = some (.int .i64 ee) ∧ W.cell? ⟨w.heap.size + 1, 2, none⟩ = some (.int .i64 pp)) ∧ (W.cell? ⟨w.heap.size + 1 + 1, 0, none⟩ = some (.slice none 0 0) ∧ W.frozen? ⟨w.heap.size + 1 + 1, 0, none⟩ = false) ∧ Below w.heap.size w W) := fun W hW => by
    have e0 : W.heap[w.heap.size]? = some (.cells #[.slice a T.length c] 24 (0, 0)) := by
      rw [hW.block _ (by omega), hW0, Below.heap_alloc _ _ _ (by simp; omega), Below.heap_alloc _ _ _ (by simp)]; exact heap_alloc_new _ _
    have e1 : W.heap[w.heap.size + 1]? = some (.cells #[.int .i64 mm, .int .i64 ee, .int .i64 pp] 98 (0, 0)) := by
      rw [hW.block _ (by omega), hW0, Below.heap_alloc _ _ _ (by simp)]
      have := heap_alloc_new (bxw w (.slice a T.length c)) (.cells #[.int .i64 mm, .int .i64 ee, .int .i64 pp] 98)
      simpa using this
    have e2 : W.heap[w.heap.size + 1 + 1]? = some (.cells #[.slice none 0 0] 24 (0, 0)) := by
      rw [hW.block _ (by omega), hW0]
      have := heap_alloc_new ((bxw w (.slice a T.length c)).alloc (.cells #[.int .i64 mm, .int .i64 ee, .int .i64 pp] 98)) (.cells #[.slice none 0 0] 24)
      simpa using this
    exact ⟨cell_of_blk e0 rfl, ⟨cell_of_blk e1 rfl, cell_of_blk e1 rfl, cell_of_blk e1 rfl⟩, ⟨cell_of_blk e2 rfl, by simp [World.frozen?, e2]⟩, bw_tr hb0 hW⟩
  have KM : Hid (∀ W, Below w.heap.size w W → Calls Tryz.prog 37 #[.agg #[.slice a T.length c]] W fun e w' => e = .returned (.bool true) ∧ Below W.heap.size W w') := fun W hW => by
    have := mayBe_any (h.bw hW) (hT.bw hW); rw [qm] at this; exact this
  have KF : Hid (∀ W, Below w.heap.size w W → Calls Tryz.prog 39 #[.agg #[.slice a T.length c], .int .i64 mm] W fun e w' => e = .returned (.int .i64 (fnd T mm)) ∧ Below W.heap.size W w') := fun W hW => find_any (h.bw hW) (mayB_15 qm).1 mm
  have KB : Hid (∀ W, Below w.heap.size w W → Calls Tryz.prog 245 #[.agg #[.slice a T.length c]] W fun e w' => e = .returned (.int .i64 (fb T : Nat)) ∧ Below W.heap.size W w') := fun W hW => firstBlank_any (h.bw hW) (mayB_15 qm).1
  have KL : Hid (∀ W, Calls Tryz.prog 38 #[.agg #[.slice a T.length c]] W fun e w' => e = .returned (.int .i64 (nlv T : Nat)) ∧ Below W.heap.size W w') := fun W => leaves_any a T.length c W h.len
  have KR : Hid (∀ W, Calls Tryz.prog 246 #[.int .i64 (nlv T : Nat), .int .i64 (fb T : Nat)] W fun e w' => e = .returned (.int .i64 (wRoom (nlv T) (fb T) : Nat)) ∧ w' = W) := fun W => withRoom_any _ _ W (by omega)
  obtain ⟨n, hn⟩ : ∃ n, n = wRoom (nlv T) (fb T) := ⟨_, rfl⟩
  have KC : Hid (∀ W, Below w.heap.size w W → Calls Tryz.prog 167 #[.agg #[.slice a T.length c], .int .i64 (n : Int)] W fun e w' => ∃ g us, e = .returned (.agg #[.slice (some ⟨g, 0, none⟩) (2 * n - 1) (2 * n - 1)]) ∧ OTr W.heap.size w' (.slice (some ⟨g, 0, none⟩) (2 * n - 1) (2 * n - 1)) (fit (2 * n - 1) T) us ∧ Below W.heap.size W w') := fun W hW => copied_any (h.bw hW) (mayB_15 qm).1 (un_len qm) (by rw [hn]; exact r1)
  rw [← hn] at KR r1 r2 d1 d2 d3 d4 d5 d6 d7
  have HTr : Hid (∀ W, Below w.heap.size w W → Tab W) := fun W hW => hT.bw hW
  have HW : Hid (W0 = ((w.alloc (.cells #[.slice a T.length c] 24)).alloc (.cells #[.int .i64 mm, .int .i64 ee, .int .i64 pp] 98)).alloc (.cells #[.slice none 0 0] 24)) := hW0
  have n1 : decide (mm < 0) = false := decide_eq_false (by omega)
  have n2 : decide (ee < 0) = false := decide_eq_false (by omega)
  have n3 : decide (pp < 1) = false := decide_eq_false (by omega)
  have n4 : decide (0 ≤ fnd T mm) = false := decide_eq_false (by omega)
  have n5 : (((fb T : Nat) : Int) == 8) = false := beq_false_of_ne (by omega)
  have n6 : decide (((fb T : Nat) : Int) = 8) = false := decide_eq_false (by omega)
  have n7 : ((fb T : Nat) : Int) ≤ 8 := by have := fb_le T; omega
  have HADD : Hid (addT T mm ee pp = onAll (addU (fb T : Nat)) (upN n (fb T)) ((fit (2 * n - 1) T).set (2 * fb T) ⟨pp, mm, ee, []⟩)) := by unfold Hid addT; rw [← hn]
  have HUN : Hid (∀ x, (ndAt T x).un.Pairwise (· ≤ ·) ∧ (ndAt T x).un.length ≤ 8) := un_ok qm
  have HR := hide (And.intro r1 (And.intro r2 (And.intro d1 (And.intro d4 (And.intro d5 d7)))))
  have HS0 := hide hs0
  clear hE q1 q2 q3 q4 q5 r1 r2 d1 d2 d3 d4 d5 d6 d7 hW0 h hT qm hn hs0
  generalize fnd T mm = fm at *
  generalize nlv T = nl at *
  generalize hfb : fb T = i at *
  clear hfb
  generalize T.length = N at *
  go_enter Tryz.func149, Tryz.ntmps149
  go_wp2_with fail
  rw [← unhide HW]
  refine (unhide KM _ hb0).mono ?_
  rintro e W1 ⟨rfl, b1⟩
  obtain ⟨c0, ⟨c1, c2, c3⟩, -, hw1⟩ := unhide HB _ b1
  clear KM HW
  go_wp2_with fail
  refine (unhide KF _ hw1).mono ?_
  rintro e W2 ⟨rfl, b2⟩
  have b3 := bw_tr b1 b2
  clear c0 c1 c2 c3 KF b2
  obtain ⟨c0, -, -, hw3⟩ := unhide HB _ b3
  go_wp2_with fail
  refine (unhide KB _ hw3).mono ?_
  rintro e W3 ⟨rfl, b4⟩
  have b5 := bw_tr b3 b4
  clear c0 KB b4 b3 b1 hw1 hw3
  obtain ⟨c0, -, -, hw5⟩ := unhide HB _ b5
  clear n1 n2 n3 n4
  obtain ⟨mn, hmn⟩ : ∃ mn, mn = 2 * n - 1 := ⟨_, rfl⟩
  have HMN := hide hmn
  rw [← hmn] at KC HADD
  clear hmn
  obtain ⟨F, hF⟩ : ∃ F, F = fit mn T := ⟨_, rfl⟩
  rw [← hF] at KC HADD
  have HFF := hide hF
  clear hF
  have bA : Below W0.heap.size W0 W3.drew := b5.drew
  have bB : Below W0.heap.size W0 (W3.alloc (.cells #[.slice none 0 0] 24)).drew := (b5.alloc b5.size _).drew
  have k0 : (W3.alloc (.cells #[.slice none 0 0] 24)).drew.heap[W3.heap.size]? = some (.cells #[.slice none 0 0] 24 (0, 0)) := heap_alloc_new W3 _
  have S0 := (unhide HB _ bA).1
  have S0b := (unhide HB _ bB).1
  have KC2 : Hid (∀ W, Below W0.heap.size W0 W → Calls Tryz.prog 167 #[.agg #[.slice a N c], .int .i64 (n : Int)] W fun e w' => ∃ g us, e = .returned (.agg #[.slice (some ⟨g, 0, none⟩) mn mn]) ∧ OTr W.heap.size w' (.slice (some ⟨g, 0, none⟩) mn mn) F us ∧ Below W.heap.size W w') := fun W hW => unhide KC W (unhide HB _ hW).2.2.2
  clear KC
  have hA3 : W0.heap.size ≤ W3.heap.size := bA.size
  go_upto_region 8 with fail
  go_cut [8] from 41 to 47 (fun s8 wx => ∃ nb g us, s8 = .pointer (some ⟨nb, 0, none⟩) ∧ Hid (NX W0 wx nb g mn F us))
  case first =>
    go_region_held3 (fun w' : World => w'.cell? ⟨w.heap.size, 0, none⟩ = some (.slice a N c)) (first | with_reducible exact S0 | with_reducible exact S0b | with_reducible exact S1 | with_reducible exact S1b | with_reducible exact S3 | with_reducible exact S3b | with_reducible exact S3c | with_reducible exact S3d) (first
      | (go_at_call 38; refine (unhide KL _).mono ?_; rintro e z1 ⟨rfl, y1⟩; first
        | (have x1 : Below W0.heap.size W0 z1 := bw_tr bA y1; have S1 := (unhide HB _ x1).1; have x1b := x1.alloc x1.size (.cells #[.slice none 0 0] 24); have S1b := (unhide HB _ x1b).1)
        | (have x1 : Below W0.heap.size W0 z1 := bw_tr bB y1; have S1 := (unhide HB _ x1).1; have k1 := kept1 k0 y1) | fail)
      | (go_at_call 246; refine (unhide KR _).mono ?_; rintro e z1 ⟨rfl, rfl⟩)
      | (go_at_call 167; first
        | (with_reducible refine (unhide KC2 _ x1).mono ?_; rintro e z3 ⟨g, us, rfl, hO, y3⟩; have x3 := bw_tr x1 y3; have O3 := hO.mono x1.size; have S3 := (unhide HB _ x3).1; have S3b := (unhide HB _ (x3.alloc x3.size (.cells #[.slice (some ⟨g, 0, none⟩) mn mn] 24))).1; have S3d := (unhide HB _ (x3.alloc x3.size (.cells #[.slice none 0 0] 24))).1; try (have k3 : z3.heap[W3.heap.size]? = some (.cells #[.slice none 0 0] 24 (0, 0)) := kept1 k1 y3; have k4 : z3.cell? ⟨W3.heap.size, 0, none⟩ = some (.slice none 0 0) := cell_of_blk k3 rfl; have k5 : z3.frozen? ⟨W3.heap.size, 0, none⟩ = false := frozen_of_blk k3; have hN := nx_put x3 O3 k3 hA3; have S3c := (unhide HB _ hN.bel).1))
        | (with_reducible refine (unhide KC2 _ x1b).mono ?_; rintro e z3 ⟨g, us, rfl, hO, y3⟩; have x3 := bw_tr x1b y3; have O3 := hO.mono x1b.size; have S3 := (unhide HB _ x3).1; have k3 := new1 y3; have k4 : z3.cell? ⟨z1.heap.size, 0, none⟩ = some (.slice none 0 0) := cell_of_blk k3 rfl; have k5 : z3.frozen? ⟨z1.heap.size, 0, none⟩ = false := frozen_of_blk k3; have hN := nx_put x3 O3 k3 x1.size; have S3c := (unhide HB _ hN.bel).1) | fail) | fail)
    all_goals
      go_wp2_with fail
      go_meet
      case rel => first | exact ⟨_, _, _, rfl, hN⟩ | exact ⟨_, _, _, rfl, nx_new x3 O3⟩
  case rest =>
    obtain ⟨nb, g, us, rfl, hNX⟩ := hcut
    clear bA bB k0 S0 S0b KC2 KL KR c0 b5 hw5 hA3 n5 n6
    obtain ⟨r1, r2, d1, d4, d5, d7⟩ := unhide HR
    obtain ⟨x2, hx2⟩ : ∃ x2, x2 = 2 * i := ⟨_, rfl⟩
    rw [← hx2] at d1 HADD
    have hFl : F.length = mn := by rw [unhide HFF, fit_len]
    have hmn := unhide HMN
    have hx2l : x2 < F.length := by omega
    obtain ⟨u2, hu2, ⟨e0, e1, e2, e3⟩, hfz⟩ := (unhide hNX).at hx2l
    have f0 := hfz (x2 * 4); have f1 := hfz (x2 * 4 + 1); have f2 := hfz (x2 * 4 + 2); have f3 := hfz (x2 * 4 + 3)
    have cN := (unhide hNX).cell
    obtain ⟨-, ⟨c1, c2, c3⟩, -, -⟩ := unhide HB _ (unhide hNX).bel
    have hmn15 : mn ≤ 15 := by simp [sizes] at r1; omega
    have p1 : 2 * (i : Int) = (x2 : Int) := by omega
    have p2 : (x2 : Int) < (mn : Int) := by omega
    have p3 : (0 : Int) ≤ (x2 : Int) := by omega
    have p4 : (mn : Int) ≤ 15 := by omega
    have hNX4 : Hid (NX W0 ((((wc.setCell ⟨g, x2 * 4, none⟩ (.int .i64 pp)).setCell ⟨g, x2 * 4 + 1, none⟩ (.int .i64 mm)).setCell ⟨g, x2 * 4 + 2, none⟩ (.int .i64 ee)).setCell ⟨g, x2 * 4 + 3, none⟩ (.slice none 0 0)) nb g mn (F.set x2 ⟨pp, mm, ee, []⟩) (us.set x2 (.slice none 0 0))) := (unhide hNX).set4 hx2l ⟨pp, mm, ee, []⟩ rfl
    obtain ⟨T1, hT1⟩ : ∃ T1, T1 = F.set x2 ⟨pp, mm, ee, []⟩ := ⟨_, rfl⟩
    rw [← hT1] at hNX4 HADD
    have hT1l : T1.length = mn := by rw [hT1, List.length_set, hFl]
    have hnl1 : nlv T1 = n := by unfold nlv; simp [sizes] at r1; omega
    have HU1 : Hid (∀ x, x ∈ upN n i → (ndAt T1 x).un.Pairwise (· ≤ ·) ∧ (ndAt T1 x).un.length ≤ 8) := fun x hx => by
      have := d5 x hx
      rw [hT1, ndAt_set, if_neg (by omega), unhide HFF, ndAt_fit (by omega)]; exact unhide HUN x
    have HU2 : Hid (∀ y ∈ T1, y.un.length ≤ 140737488355328) := fun y hy => by
      obtain ⟨k, hk⟩ := List.mem_iff_getElem?.1 hy
      have hlt := (List.getElem?_eq_some_iff.1 hk).1
      rw [ndAt_of hlt] at hk
      cases hk
      rw [hT1, ndAt_set]
      split
      · simp
      · rw [unhide HFF, ndAt_fit (by omega)]; have := (unhide HUN k).2; omega
    have HN1 := hide (And.intro hT1l (And.intro hnl1 (And.intro r2 (And.intro d4 d5))))
    have HD1 := hide d1
    have HMN2 : Hid (2 * n - 1 = mn) := hmn.symm
    clear hNX hT1 hT1l hnl1 r1 r2 d1 d4 d5 hFl hmn hx2l HR HFF HMN hu2 hfz hx2
    obtain ⟨U, hU⟩ : ∃ U, U = upN n i := ⟨_, rfl⟩
    rw [← hU] at HADD HU1 HN1 HD1 d7
    clear hU
    go_upto_region 10 with fail
    generalize ((((wc.setCell ⟨g, x2 * 4, none⟩ (.int .i64 pp)).setCell ⟨g, x2 * 4 + 1, none⟩ (.int .i64 mm)).setCell ⟨g, x2 * 4 + 2, none⟩ (.int .i64 ee)).setCell ⟨g, x2 * 4 + 3, none⟩ (.slice none 0 0)) = W4 at *
    generalize us.set x2 (.slice none 0 0) = us4 at *
    have cN4 := (unhide hNX4).cell
    obtain ⟨t1, t2, t3, t4, t5⟩ := unhide HN1
    have KA := hide (above_tr ((unhide hNX4).tr.trd (by omega) (unhide HU2)) (by omega) (unhide HTr _ (unhide HB _ (unhide hNX4).bel).2.2.2) (show i < nlv T1 by omega))
    rw [t2, show ((2 * i : Nat) : Int) = ((x2 : Nat) : Int) by omega, unhide HD1] at KA
    clear e0 e1 e2 e3 f0 f1 f2 f3 cN c1 c2 c3 t1 t2 t3 t4 t5 HU2 HD1
    obtain ⟨M, hM⟩ : ∃ M, M = U.length := ⟨_, rfl⟩
    have HM := hide hM
    rw [← hM] at d7
    clear hM
    go_wp2_with fail
    refine (unhide KA).mono ?_
    rintro e W5 ⟨rv, rfl, hrv, y5⟩
    have hNX5 := hide ((unhide hNX4).bw y5)
    obtain ⟨ra, rc, hre⟩ := own_slice hrv
    rw [List.length_map, ← unhide HM] at hre
    subst hre
    have HRV : Hid (Ints W4.heap.size W5 (.slice ra M rc) (U.map (fun (x : Nat) => (x : Int))) ∧ ∀ k, (Value.slice ra M rc).ownBlock = some k → k ∉ g :: rrB us4) := ⟨hrv, fun k hk c => by
      have h1 := (World.ownsRow.lt hrv k hk).1
      have h2 := ((unhide hNX4).tr.blocks k c).2
      omega⟩
    clear KA cN4 hNX4 hrv y5 p2 p3
    go_wp2_with fail
    go_loopw [63] (fun iv wr => ∃ (j : Nat) (us' : List Value), iv = .int .i64 (j : Int) ∧ j ≤ M ∧ Hid (NX W0 wr nb g mn (onAll (addU (i : Nat)) (U.take j) T1) us') ∧ Hid (Ints W4.heap.size wr (.slice ra M rc) (U.map (fun (x : Nat) => (x : Int))) ∧ ∀ k, (Value.slice ra M rc).ownBlock = some k → k ∉ g :: rrB us')) (fun iv _ => (M - (intOf iv)).toNat)
    case atStart => exact ⟨0, us4, rfl, by omega, by rw [List.take_zero, onAll_nil]; exact hNX5, HRV⟩
    case round =>
      clear HRV hNX5
      obtain ⟨j, us', rfl, hjM, hNX, hRV⟩ := hrel
      by_cases hlt : j < M
      · obtain ⟨x, hx⟩ : ∃ x, U[j]? = some x := ⟨_, List.getElem?_eq_getElem (by have := unhide HM; omega)⟩
        have hxm : x ∈ U := List.mem_of_getElem? hx
        obtain ⟨gu, ou, cu, hue, hcu⟩ := (unhide hRV).1.nums.open (by simp; have := unhide HM; omega)
        rw [List.length_map, ← unhide HM] at hue
        cases hue
        have k1 : wr.cell? ⟨gu, ou + j, none⟩ = some (.int .i64 (x : Int)) := hcu j (x : Int) (by simp [hx])
        obtain ⟨t1, t2, t3, t4, t5⟩ := unhide HN1
        have ht5 := t5 x hxm
        have hTl : (onAll (addU (i : Nat)) (U.take j) T1).length = mn := by rw [onAll_len, t1]
        have hnot : x ∉ U.take j := by
          intro c
          obtain ⟨q, hq⟩ := List.mem_iff_getElem?.1 c
          have hql : q < j := by have := (List.getElem?_eq_some_iff.1 hq).1; simp at this; omega
          rw [List.getElem?_take_of_lt hql] at hq
          have := List.pairwise_iff_getElem.1 (List.nodup_iff_pairwise_ne.1 t4) q j (by have := unhide HM; omega) (by have := unhide HM; omega) hql
          rw [(List.getElem?_eq_some_iff.1 hq).2, (List.getElem?_eq_some_iff.1 hx).2] at this
          exact this rfl
        have hnd : ndAt (onAll (addU (i : Nat)) (U.take j) T1) x = ndAt T1 x := by rw [ndAt_onAll _ _ _ _ t4.take, if_neg (by simp [hnot])]
        have hsn : Hid (onAll (addU (i : Nat)) (U.take (j + 1)) T1 = (onAll (addU (i : Nat)) (U.take j) T1).set x (addU (i : Nat) (ndAt T1 x))) := by
          unfold Hid; rw [List.take_add_one, hx]; show onAll _ (U.take j ++ [x]) _ = _; rw [onAll_snoc, hnd]
        have hget : (onAll (addU (i : Nat)) (U.take j) T1)[x]? = some (ndAt T1 x) := by rw [← hnd]; exact ndAt_of (by have := unhide HMN2; omega)
        have KU := hide (addUnmerged_any (unhide hNX).tr hget (unhide HU1 x hxm).1 (unhide HU1 x hxm).2 (i := i) (unhide hNX).bel.size)
        have cN := (unhide hNX).cell
        have q1 : (j : Int) < (M : Int) := by omega
        have q0 : (0 : Int) ≤ (j : Int) := by omega
        have p2 : (x : Int) < (mn : Int) := by have := unhide HMN2; omega
        have p3 : (0 : Int) ≤ (x : Int) := by omega
        have hM3 : (M : Int) ≤ 3 := by omega
        generalize onAll (addU (i : Nat)) (U.take j) T1 = Tj at *
        clear hcu hx hxm t1 t2 t3 t4 t5 ht5 hTl hnot hnd hget
        go_wp2_with fail
        refine (unhide KU).mono ?_
        rintro e w9 ⟨rfl, us9, hO9, hMv⟩
        have hNX9 := hide ((unhide hNX).fr hO9 hMv.fr)
        have hRV9 : Hid (Ints W4.heap.size w9 (.slice (some ⟨gu, ou, none⟩) M rc) (U.map (fun (x : Nat) => (x : Int))) ∧ ∀ k, (Value.slice (some ⟨gu, ou, none⟩) M rc).ownBlock = some k → k ∉ g :: rrB us9) := by
          refine ⟨own_keep (unhide hRV).1 (fun k hk => hMv.fr.block k (World.ownsRow.lt (unhide hRV).1 k hk).2 ((unhide hRV).2 k hk)), fun k hk c => ?_⟩
          rcases hMv.place k c with q | q
          · exact (unhide hRV).2 k hk q
          · have := (World.ownsRow.lt (unhide hRV).1 k hk).2; omega
        clear KU hO9 hMv hNX hRV
        go_wp2_with fail
        go_roundw
        case rel => exact ⟨j + 1, us9, by go_num, by omega, by rw [unhide hsn]; exact hNX9, hRV9⟩
        case measure => simp [intOf]; omega
      · obtain rfl : j = M := by omega
        have e9 : U.take j = U := List.take_of_length_le (by have := unhide HM; omega)
        rw [e9, ← unhide HADD] at hNX
        have cN := (unhide hNX).cell
        obtain ⟨-, -, ⟨cR, fR⟩, cW⟩ := unhide HB _ (unhide hNX).bel
        have HS := unhide HS0
        have HF : Hid (OTr w.heap.size (wr.setCell ⟨w.heap.size + 1 + 1, 0, none⟩ (.slice (some ⟨g, 0, none⟩) mn mn)) (.slice (some ⟨g, 0, none⟩) mn mn) (addT T mm ee pp) us' ∧ Below w.heap.size w (wr.setCell ⟨w.heap.size + 1 + 1, 0, none⟩ (.slice (some ⟨g, 0, none⟩) mn mn))) :=
          ⟨((unhide hNX).tr.keepB (fun k hk => Below.heap_setCell _ _ _ _ (by simp; omega))).mono (by omega), cW.setCell (by simp; omega) _⟩
        have cZ : (wr.setCell ⟨w.heap.size + 1 + 1, 0, none⟩ (.slice (some ⟨g, 0, none⟩) mn mn)).cell? ⟨w.heap.size + 1 + 1, 0, none⟩ = some (.slice (some ⟨g, 0, none⟩) mn mn) := cell_set_same cR _
        clear hNX HS cW
        go_wp2_with fail
        generalize wr.setCell ⟨w.heap.size + 1 + 1, 0, none⟩ (.slice (some ⟨g, 0, none⟩) mn mn) = WZ at *
        exact bodyPost_ret (v := .tuple #[.agg #[.slice (some ⟨g, 0, none⟩) mn mn], .int .i64 (i : Int), .int .i64 0]) (by simp [results, Tryz.results149, go_sem, cZ]) rfl ⟨_, _, rfl, (unhide HF).1, (unhide HF).2⟩
end Go.Proofs.YtaanacnloljlmaaGreatDoor

/- The contract of Add, whatever comes of it; of New. -/
namespace Go.Proofs.YtaanacnloljlmaaGreatDoor
open Go.RowKit Go.Maps

set_option maxRecDepth 100000 in
set_option maxHeartbeats 4000000 in
theorem add_err {w : World} {v : Value} {T : List Nd} (h : Trd w v T) (hT : Tab w) (mm ee pp : Int) (hE : addE T mm ee pp ≠ 0) :
    Calls Tryz.prog 149 #[.agg #[v], .agg #[.int .i64 mm, .int .i64 ee, .int .i64 pp]] w fun e w' => e = .returned (.tuple #[.agg #[.slice none 0 0], .int .i64 0, .int .i64 (addE T mm ee pp)]) ∧ Below w.heap.size w w' := by
  obtain ⟨W0, hW0⟩ : ∃ W0, W0 = ((bxw w v).alloc (.cells #[.int .i64 mm, .int .i64 ee, .int .i64 pp] 98)).alloc (.cells #[.slice none 0 0] 24) := ⟨_, rfl⟩
  have hb0 : Below w.heap.size w W0 := by rw [hW0]; exact ((bwA _ _).alloc (by simp) _).alloc (by simp; omega) _
  have hs0 : W0.heap.size = w.heap.size + 3 := by rw [hW0]; simp
  have HB : Hid (∀ W, Below W0.heap.size W0 W → W.cell? ⟨w.heap.size, 0, none⟩ = some v ∧ (W.cell? ⟨w.heap.size + 1, 0, none⟩ = some (.int .i64 mm) ∧ W.cell? ⟨w.heap.size + 1, 1, none⟩ = some (.int .i64 ee) ∧ W.cell? ⟨w.heap.size + 1, 2, none⟩ = some (.int .i64 pp)) ∧ (W.cell? ⟨w.heap.size + 1 + 1, 0, none⟩ = some (.slice none 0 0) ∧ W.frozen? ⟨w.heap.size + 1 + 1, 0, none⟩ = false ∧ (W.setCell ⟨w.heap.size + 1 + 1, 0, none⟩ (.slice none 0 0)).cell? ⟨w.heap.size + 1 + 1, 0, none⟩ = some (.slice none 0 0)) ∧ Below w.heap.size w W) := fun W hW => by
    have e0 : W.heap[w.heap.size]? = some (.cells #[v] 24 (0, 0)) := by
      rw [hW.block _ (by omega), hW0, Below.heap_alloc _ _ _ (by simp; omega), Below.heap_alloc _ _ _ (by simp)]; exact heap_alloc_new _ _
    have e1 : W.heap[w.heap.size + 1]? = some (.cells #[.int .i64 mm, .int .i64 ee, .int .i64 pp] 98 (0, 0)) := by
      rw [hW.block _ (by omega), hW0, Below.heap_alloc _ _ _ (by simp)]
      have := heap_alloc_new (bxw w v) (.cells #[.int .i64 mm, .int .i64 ee, .int .i64 pp] 98)
      simpa using this
    have e2 : W.heap[w.heap.size + 1 + 1]? = some (.cells #[.slice none 0 0] 24 (0, 0)) := by
      rw [hW.block _ (by omega), hW0]
      have := heap_alloc_new ((bxw w v).alloc (.cells #[.int .i64 mm, .int .i64 ee, .int .i64 pp] 98)) (.cells #[.slice none 0 0] 24)
      simpa using this
    exact ⟨cell_of_blk e0 rfl, ⟨cell_of_blk e1 rfl, cell_of_blk e1 rfl, cell_of_blk e1 rfl⟩, ⟨cell_of_blk e2 rfl, by simp [World.frozen?, e2], cell_set_same (cell_of_blk e2 rfl) _⟩, bw_tr hb0 hW⟩
  have KM : Hid (∀ W, Below w.heap.size w W → Calls Tryz.prog 37 #[.agg #[v]] W fun e w' => e = .returned (.bool (mayB T)) ∧ Below W.heap.size W w') := fun W hW => mayBe_any (h.bw hW) (hT.bw hW)
  have KF : Hid (mayB T = true → ∀ W, Below w.heap.size w W → Calls Tryz.prog 39 #[.agg #[v], .int .i64 mm] W fun e w' => e = .returned (.int .i64 (fnd T mm)) ∧ Below W.heap.size W w') := fun q W hW => find_any (h.bw hW) (mayB_15 q).1 mm
  have KB : Hid (mayB T = true → ∀ W, Below w.heap.size w W → Calls Tryz.prog 245 #[.agg #[v]] W fun e w' => e = .returned (.int .i64 (fb T : Nat)) ∧ Below W.heap.size W w') := fun q W hW => firstBlank_any (h.bw hW) (mayB_15 q).1
  have HW : Hid (W0 = ((w.alloc (.cells #[v] 24)).alloc (.cells #[.int .i64 mm, .int .i64 ee, .int .i64 pp] 98)).alloc (.cells #[.slice none 0 0] 24)) := hW0
  obtain ⟨E, hEE⟩ : ∃ E, E = addE T mm ee pp := ⟨_, rfl⟩
  rw [← hEE] at hE ⊢
  unfold addE at hEE
  have HE := hide hEE
  have HE0 := hide hE
  have HBS : Hid (∀ W, Below W0.heap.size W0 W → Below w.heap.size w (W.setCell ⟨w.heap.size + 1 + 1, 0, none⟩ (.slice none 0 0))) := fun W hW => (unhide HB _ hW).2.2.2.setCell (by simp; omega) _
  clear h hT hEE hE hW0 hs0
  generalize hp : mayB T = p at *
  clear hp
  generalize fnd T mm = fm at *
  generalize fb T = ib at *
  cases p
  · obtain rfl : E = 1 := by rw [unhide HE]; simp
    clear KF KB HE
    go_enter Tryz.func149, Tryz.ntmps149
    go_wp2_with fail
    rw [← unhide HW]
    refine (unhide KM _ hb0).mono ?_
    rintro e W1 ⟨rfl, b1⟩
    obtain ⟨c0, ⟨c1, c2, c3⟩, ⟨c4, c5, c6⟩, hw1⟩ := unhide HB _ b1
    have c7 := unhide HBS _ b1
    clear KM HW
    go_wp2
    generalize W1.setCell ⟨w.heap.size + 1 + 1, 0, none⟩ (.slice none 0 0) = WZ at *
    exact bodyPost_ret (v := .tuple #[.agg #[.slice none 0 0], .int .i64 0, .int .i64 1]) (by simp [results, Tryz.results149, go_sem, c6]) rfl ⟨rfl, c7⟩
  · have KF2 := hide (unhide KF rfl)
    have KB2 := hide (unhide KB rfl)
    clear KF KB
    have hbad : (mm < 0 ∨ ee < 0 ∨ pp < 1) → E = 1 := fun q => by rw [unhide HE]; simp [q]
    by_cases n1 : mm < 0
    · obtain rfl := hbad (Or.inl n1)
      clear HE hbad
      go_enter Tryz.func149, Tryz.ntmps149
      go_wp2_with fail
      rw [← unhide HW]
      refine (unhide KM _ hb0).mono ?_
      rintro e W1 ⟨rfl, b1⟩
      obtain ⟨c0, ⟨c1, c2, c3⟩, ⟨c4, c5, c6⟩, hw1⟩ := unhide HB _ b1
      have c7 := unhide HBS _ b1
      clear KM HW
      go_wp2
      generalize W1.setCell ⟨w.heap.size + 1 + 1, 0, none⟩ (.slice none 0 0) = WZ at *
      exact bodyPost_ret (v := .tuple #[.agg #[.slice none 0 0], .int .i64 0, .int .i64 1]) (by simp [results, Tryz.results149, go_sem, c6]) rfl ⟨rfl, c7⟩
    · have n1' : decide (mm < 0) = false := decide_eq_false n1
      by_cases n2 : ee < 0
      · obtain rfl := hbad (Or.inr (Or.inl n2))
        clear HE hbad
        go_enter Tryz.func149, Tryz.ntmps149
        go_wp2_with fail
        rw [← unhide HW]
        refine (unhide KM _ hb0).mono ?_
        rintro e W1 ⟨rfl, b1⟩
        obtain ⟨c0, ⟨c1, c2, c3⟩, ⟨c4, c5, c6⟩, hw1⟩ := unhide HB _ b1
        have c7 := unhide HBS _ b1
        clear KM HW
        go_wp2
        generalize W1.setCell ⟨w.heap.size + 1 + 1, 0, none⟩ (.slice none 0 0) = WZ at *
        exact bodyPost_ret (v := .tuple #[.agg #[.slice none 0 0], .int .i64 0, .int .i64 1]) (by simp [results, Tryz.results149, go_sem, c6]) rfl ⟨rfl, c7⟩
      · have n2' : decide (ee < 0) = false := decide_eq_false n2
        by_cases n3 : pp < 1
        · obtain rfl := hbad (Or.inr (Or.inr n3))
          clear HE hbad
          go_enter Tryz.func149, Tryz.ntmps149
          go_wp2_with fail
          rw [← unhide HW]
          refine (unhide KM _ hb0).mono ?_
          rintro e W1 ⟨rfl, b1⟩
          obtain ⟨c0, ⟨c1, c2, c3⟩, ⟨c4, c5, c6⟩, hw1⟩ := unhide HB _ b1
          have c7 := unhide HBS _ b1
          clear KM HW
          go_wp2
          generalize W1.setCell ⟨w.heap.size + 1 + 1, 0, none⟩ (.slice none 0 0) = WZ at *
          exact bodyPost_ret (v := .tuple #[.agg #[.slice none 0 0], .int .i64 0, .int .i64 1]) (by simp [results, Tryz.results149, go_sem, c6]) rfl ⟨rfl, c7⟩
        · have n3' : decide (pp < 1) = false := decide_eq_false n3
          have HE2 : Hid (E = if 0 ≤ fm then 13 else if ib = 8 then 3 else 0) := by unfold Hid; rw [unhide HE, if_neg (by simp; omega)]
          clear HE hbad
          by_cases n4 : 0 ≤ fm
          · obtain rfl : E = 13 := by rw [unhide HE2, if_pos n4]
            clear HE2
            go_enter Tryz.func149, Tryz.ntmps149
            go_wp2_with fail
            rw [← unhide HW]
            refine (unhide KM _ hb0).mono ?_
            rintro e W1 ⟨rfl, b1⟩
            obtain ⟨c0, ⟨c1, c2, c3⟩, -, hw1⟩ := unhide HB _ b1
            clear KM HW
            go_wp2_with fail
            refine (unhide KF2 _ hw1).mono ?_
            rintro e W2 ⟨rfl, b2⟩
            have b3 := bw_tr b1 b2
            clear c0 c1 c2 c3
            obtain ⟨c0, -, ⟨c4, c5, c6⟩, hw3⟩ := unhide HB _ b3
            have c7 := unhide HBS _ b3
            go_wp2
            generalize W2.setCell ⟨w.heap.size + 1 + 1, 0, none⟩ (.slice none 0 0) = WZ at *
            exact bodyPost_ret (v := .tuple #[.agg #[.slice none 0 0], .int .i64 0, .int .i64 13]) (by simp [results, Tryz.results149, go_sem, c6]) rfl ⟨rfl, c7⟩
          · have n4' : decide (0 ≤ fm) = false := decide_eq_false n4
            have h8 : ib = 8 := by
              apply Decidable.byContradiction; intro c
              exact unhide HE0 (by rw [unhide HE2, if_neg n4, if_neg c])
            obtain rfl : E = 3 := by rw [unhide HE2, if_neg n4, if_pos h8]
            subst h8
            clear HE2
            go_enter Tryz.func149, Tryz.ntmps149
            go_wp2_with fail
            rw [← unhide HW]
            refine (unhide KM _ hb0).mono ?_
            rintro e W1 ⟨rfl, b1⟩
            obtain ⟨c0, ⟨c1, c2, c3⟩, -, hw1⟩ := unhide HB _ b1
            clear KM HW
            go_wp2_with fail
            refine (unhide KF2 _ hw1).mono ?_
            rintro e W2 ⟨rfl, b2⟩
            have b3 := bw_tr b1 b2
            clear c0 c1 c2 c3
            obtain ⟨c0, -, -, hw3⟩ := unhide HB _ b3
            go_wp2_with fail
            refine (unhide KB2 _ hw3).mono ?_
            rintro e W3 ⟨rfl, b4⟩
            have b5 := bw_tr b3 b4
            clear c0
            obtain ⟨c0, -, ⟨c4, c5, c6⟩, hw5⟩ := unhide HB _ b5
            have c7 := unhide HBS _ b5
            go_wp2
            generalize W3.setCell ⟨w.heap.size + 1 + 1, 0, none⟩ (.slice none 0 0) = WZ at *
            exact bodyPost_ret (v := .tuple #[.agg #[.slice none 0 0], .int .i64 0, .int .i64 3]) (by simp [results, Tryz.results149, go_sem, c6]) rfl ⟨rfl, c7⟩
theorem add_any {w : World} {v : Value} {T : List Nd} (h : Trd w v T) (hT : Tab w) (mm ee pp : Int) :
    Calls Tryz.prog 149 #[.agg #[v], .agg #[.int .i64 mm, .int .i64 ee, .int .i64 pp]] w fun e w' => ∃ r us, e = .returned (.tuple #[.agg #[r], .int .i64 (addA T mm ee pp : Nat), .int .i64 (addE T mm ee pp)]) ∧ OTr w.heap.size w' r (addR T mm ee pp) us ∧ Below w.heap.size w w' := by
  by_cases hE : addE T mm ee pp = 0
  · refine (add_ok h hT mm ee pp hE).mono ?_
    rintro e w' ⟨r, us, h1, h2, h3⟩
    refine ⟨r, us, ?_, ?_, h3⟩
    · rw [h1, hE]; unfold addA; rw [if_pos hE]
    · unfold addR; rw [if_pos hE]; exact h2
  · refine (add_err h hT mm ee pp hE).mono ?_
    rintro e w' ⟨h1, h3⟩
    refine ⟨.slice none 0 0, [], ?_, ?_, h3⟩
    · rw [h1]; unfold addA; rw [if_neg hE]; rfl
    · unfold addR; rw [if_neg hE]; exact otr_nil _ _
theorem trd_nil (w : World) : Trd w (.slice none 0 0) [] := ⟨by simp, by simp, Or.inl ⟨rfl, none, 0, rfl⟩⟩
end Go.Proofs.YtaanacnloljlmaaGreatDoor

/- The contract of Remove. -/
namespace Go.Proofs.YtaanacnloljlmaaGreatDoor
open Go.RowKit Go.Maps

theorem fit_self {T : List Nd} {m : Nat} (h : T.length = m) : fit m T = T := by
  rw [fit_eq, ← h]; simp
theorem needF_sizes (T : List Nd) : ∀ (f n : Nat), n ∈ sizes → needF f T n ∈ sizes ∧ needF f T n ≤ n := by
  intro f
  induction f with
  | zero => intro n hn; exact ⟨hn, Nat.le_refl _⟩
  | succ f ih =>
    intro n hn
    unfold needF
    split
    · rename_i hc
      have h2 : n / 2 ∈ sizes := by simp [sizes] at hn ⊢; omega
      have := ih (n / 2) h2
      exact ⟨this.1, by omega⟩
    · exact ⟨hn, Nat.le_refl _⟩
def remR (T : List Nd) (m : Int) : List Nd := if remE T m = 0 then remT T m else []
theorem fnd_range {T : List Nd} {m : Int} (h : ¬ fnd T m < 0) : ∃ i : Nat, fnd T m = i ∧ i < nlv T ∧ hit m (ndAt T (2 * i)) = true := by
  unfold fnd at *
  split at h
  · rename_i hlt
    refine ⟨_, by rw [if_pos hlt], hlt, ?_⟩
    have := List.findIdx_getElem (p := hit m) (xs := lvs T) (w := by rw [lvs_len]; exact hlt)
    simpa [lvs] using this
  · omega
set_option maxRecDepth 100000 in
set_option maxHeartbeats 8000000 in
theorem rem_ok {w : World} {v : Value} {T : List Nd} (h : Trd w v T) (hT : Tab w) (mm : Int) (hE : remE T mm = 0) :
    Calls Tryz.prog 150 #[.agg #[v], .int .i64 mm] w fun e w' => ∃ r us, e = .returned (.tuple #[.agg #[r], .int .i64 0]) ∧ OTr w.heap.size w' r (remT T mm) us ∧ Below w.heap.size w w' := by
  have q : mayB T = true ∧ ¬ fnd T mm < 0 ∧ (mems T).length ≠ 1 := by
    unfold remE at hE
    split at hE
    · cases hE
    · rename_i hh
      split at hE
      · cases hE
      · split at hE
        · cases hE
        · exact ⟨by simpa using hh, by omega, by omega⟩
  obtain ⟨qm, q1, q2⟩ := q
  obtain ⟨i, hi, hil, _⟩ := fnd_range q1
  have ok := mayB_okn qm (nlv_pos (by omega))
  obtain ⟨r1, g2, g3, g4, g5⟩ := ok.wd.facts
  obtain ⟨d1, d2, d3, d4, d5, d6⟩ := up_of r1 hil
  have d7 := up_len r1 hil
  have HREM : Hid (remT T mm = fit (2 * need (blk i T) - 1) (blk i T)) := by unfold Hid remT; rw [hi]; rfl
  have HBLK : Hid (blk i T = onAll (fun _ => nd0) (upN (nlv T) i) (T.set (2 * i) nd0)) := rfl
  obtain ⟨a, c, rfl⟩ := h.slice
  obtain ⟨W0, hW0⟩ : ∃ W0, W0 = (bxw w (.slice a T.length c)).alloc (.cells #[.slice none 0 0] 24) := ⟨_, rfl⟩
  have hb0 : Below w.heap.size w W0 := by rw [hW0]; exact (bwA _ _).alloc (by simp) _
  have hs0 : W0.heap.size = w.heap.size + 2 := by rw [hW0]; simp
  have HB : Hid (∀ W, Below W0.heap.size W0 W → W.cell? ⟨w.heap.size, 0, none⟩ = some (.slice a T.length c) ∧ (W.heap[w.heap.size + 1]? = some (.cells #[.slice none 0 0] 24 (0, 0)) ∧ W.cell? ⟨w.heap.size + 1, 0, none⟩ = some (.slice none 0 0) ∧ W.frozen? ⟨w.heap.size + 1, 0, none⟩ = false) ∧ Below w.heap.size w W) := fun W hW => by
    have e0 : W.heap[w.heap.size]? = some (.cells #[.slice a T.length c] 24 (0, 0)) := by
      rw [hW.block _ (by omega), hW0, Below.heap_alloc _ _ _ (by simp)]; exact heap_alloc_new _ _
    have e2 : W.heap[w.heap.size + 1]? = some (.cells #[.slice none 0 0] 24 (0, 0)) := by
      rw [hW.block _ (by omega), hW0]
      have := heap_alloc_new (bxw w (.slice a T.length c)) (.cells #[.slice none 0 0] 24)
      simpa using this
    exact ⟨cell_of_blk e0 rfl, ⟨e2, cell_of_blk e2 rfl, by simp [World.frozen?, e2]⟩, bw_tr hb0 hW⟩
  have KM : Hid (∀ W, Below w.heap.size w W → Calls Tryz.prog 37 #[.agg #[.slice a T.length c]] W fun e w' => e = .returned (.bool true) ∧ Below W.heap.size W w') := fun W hW => by
    have := mayBe_any (h.bw hW) (hT.bw hW); rw [qm] at this; exact this
  have KF : Hid (∀ W, Below w.heap.size w W → Calls Tryz.prog 39 #[.agg #[.slice a T.length c], .int .i64 mm] W fun e w' => e = .returned (.int .i64 (i : Int)) ∧ Below W.heap.size W w') := fun W hW => by
    have := find_any (h.bw hW) (mayB_15 qm).1 mm; rw [hi] at this; exact this
  have KB : Hid (∀ W, Below w.heap.size w W → Calls Tryz.prog 40 #[.agg #[.slice a T.length c]] W fun e w' => ∃ r, e = .returned r ∧ Ints W.heap.size w' r (mems T) ∧ Below W.heap.size W w') := fun W hW => members_any (h.bw hW) (mayB_15 qm).1
  have KL : Hid (∀ W, Calls Tryz.prog 38 #[.agg #[.slice a T.length c]] W fun e w' => e = .returned (.int .i64 (nlv T : Nat)) ∧ Below W.heap.size W w') := fun W => leaves_any a T.length c W h.len
  have KC : Hid (∀ W, Below W0.heap.size W0 W → Calls Tryz.prog 167 #[.agg #[.slice a T.length c], .int .i64 (nlv T : Nat)] W fun e w' => ∃ g us, e = .returned (.agg #[.slice (some ⟨g, 0, none⟩) T.length T.length]) ∧ OTr W.heap.size w' (.slice (some ⟨g, 0, none⟩) T.length T.length) T us ∧ Below W.heap.size W w') := fun W hW => by
    have hW := (unhide HB _ hW).2.2
    have := copied_any (h.bw hW) (mayB_15 qm).1 (un_len qm) r1
    rw [← g2, fit_self rfl] at this; exact this
  have HTr : Hid (∀ W, Below w.heap.size w W → Tab W) := fun W hW => hT.bw hW
  have HW : Hid (W0 = (w.alloc (.cells #[.slice a T.length c] 24)).alloc (.cells #[.slice none 0 0] 24)) := hW0
  have n1 : decide ((i : Int) < 0) = false := decide_eq_false (by omega)
  have n5 : (((mems T).length : Int) == 1) = false := beq_false_of_ne (by omega)
  have n6 : decide (((mems T).length : Int) = 1) = false := decide_eq_false (by omega)
  have n7 : (i : Int) ≤ 8 := by omega
  have HUN : Hid (∀ x, (ndAt T x).un.length ≤ 8) := fun x => (un_ok qm x).2
  have HR := hide (And.intro r1 (And.intro hil (And.intro d1 (And.intro d4 (And.intro d5 d7)))))
  have HS0 := hide hs0
  have hml : ((mems T).length : Int) ≤ 8 := by have := memsOf_len (lvs T); rw [lvs_len] at this; unfold mems; omega
  have HG := hide (And.intro g2 (And.intro g3 g4))
  clear hE q1 q2 r1 d1 d2 d3 d4 d5 d6 d7 hW0 h hT qm hi hs0 ok g2 g3 g4 g5
  obtain ⟨n, hn⟩ : ∃ n, n = nlv T := ⟨_, rfl⟩
  simp only [← hn] at KL KC HR HG HBLK
  have HN := hide hn
  clear hn hil
  obtain ⟨mn, hmn⟩ : ∃ mn, mn = T.length := ⟨_, rfl⟩
  simp only [← hmn] at KM KF KB KL KC HB HW HG
  generalize hml2 : mems T = ml at *
  clear hml2
  go_enter Tryz.func150, Tryz.ntmps150
  go_wp2_with fail
  rw [← hmn, ← unhide HW]
  have HMN := hide hmn
  clear hmn
  refine (unhide KM _ hb0).mono ?_
  rintro e W1 ⟨rfl, b1⟩
  obtain ⟨c0, -, hw1⟩ := unhide HB _ b1
  clear KM HW
  go_wp2_with fail
  refine (unhide KF _ hw1).mono ?_
  rintro e W2 ⟨rfl, b2⟩
  have b3 := bw_tr b1 b2
  clear c0 KF b2
  obtain ⟨c0, -, hw3⟩ := unhide HB _ b3
  go_wp2_with fail
  refine (unhide KB _ hw3).mono ?_
  rintro e W3 ⟨rm, rfl, hrm, b4⟩
  obtain ⟨ma, mc, rfl⟩ := own_slice hrm
  have b5 := bw_tr b3 b4
  clear c0 KB b4 b3 b1 hw1 hw3 hrm
  generalize ml.length = mll at *
  obtain ⟨c0, -, hw5⟩ := unhide HB _ b5
  clear n1
  go_upto_region 8 with fail
  have bA : Below W0.heap.size W0 W3.drew := b5.drew
  have bB : Below W0.heap.size W0 (W3.alloc (.cells #[.slice none 0 0] 24)).drew := (b5.alloc b5.size _).drew
  have k0 : (W3.alloc (.cells #[.slice none 0 0] 24)).drew.heap[W3.heap.size]? = some (.cells #[.slice none 0 0] 24 (0, 0)) := heap_alloc_new W3 _
  have S0 := (unhide HB _ bA).1
  have S0b := (unhide HB _ bB).1
  have hA3 : W0.heap.size ≤ W3.heap.size := bA.size
  go_cut [7] from 25 to 29 (fun s8 wx => ∃ nb g us, s8 = .pointer (some ⟨nb, 0, none⟩) ∧ Hid (NX W0 wx nb g mn T us))
  case first =>
    go_region_held3 (fun w' : World => w'.cell? ⟨w.heap.size, 0, none⟩ = some (.slice a mn c)) (first | with_reducible exact S0 | with_reducible exact S0b | with_reducible exact S1 | with_reducible exact S1b | with_reducible exact S3 | with_reducible exact S3b | with_reducible exact S3c | with_reducible exact S3d) (first
      | (go_at_call 38; refine (unhide KL _).mono ?_; rintro e z1 ⟨rfl, y1⟩; first
        | (have x1 : Below W0.heap.size W0 z1 := bw_tr bA y1; have S1 := (unhide HB _ x1).1; have x1b := x1.alloc x1.size (.cells #[.slice none 0 0] 24); have S1b := (unhide HB _ x1b).1)
        | (have x1 : Below W0.heap.size W0 z1 := bw_tr bB y1; have S1 := (unhide HB _ x1).1; have k1 := kept1 k0 y1) | fail)
      | (go_at_call 167; first
        | (with_reducible refine (unhide KC _ x1).mono ?_; rintro e z3 ⟨g, us, rfl, hO, y3⟩; have x3 := bw_tr x1 y3; have O3 := hO.mono x1.size; have S3 := (unhide HB _ x3).1; have S3b := (unhide HB _ (x3.alloc x3.size (.cells #[.slice (some ⟨g, 0, none⟩) mn mn] 24))).1; have S3d := (unhide HB _ (x3.alloc x3.size (.cells #[.slice none 0 0] 24))).1; try (have k3 : z3.heap[W3.heap.size]? = some (.cells #[.slice none 0 0] 24 (0, 0)) := kept1 k1 y3; have k4 : z3.cell? ⟨W3.heap.size, 0, none⟩ = some (.slice none 0 0) := cell_of_blk k3 rfl; have k5 : z3.frozen? ⟨W3.heap.size, 0, none⟩ = false := frozen_of_blk k3; have hN := nx_put x3 O3 k3 hA3; have S3c := (unhide HB _ hN.bel).1))
        | (with_reducible refine (unhide KC _ x1b).mono ?_; rintro e z3 ⟨g, us, rfl, hO, y3⟩; have x3 := bw_tr x1b y3; have O3 := hO.mono x1b.size; have S3 := (unhide HB _ x3).1; have k3 := new1 y3; have k4 : z3.cell? ⟨z1.heap.size, 0, none⟩ = some (.slice none 0 0) := cell_of_blk k3 rfl; have k5 : z3.frozen? ⟨z1.heap.size, 0, none⟩ = false := frozen_of_blk k3; have hN := nx_put x3 O3 k3 x1.size; have S3c := (unhide HB _ hN.bel).1) | fail) | fail)
    all_goals
      go_wp2_with fail
      go_meet
      case rel => first | exact ⟨_, _, _, rfl, hN⟩ | exact ⟨_, _, _, rfl, nx_new x3 O3⟩
  case rest =>
    obtain ⟨nb, g, us, rfl, hNX⟩ := hcut
    clear bA bB k0 S0 S0b KC KL c0 b5 hw5 hA3 n5 n6
    obtain ⟨r1, r2, d1, d4, d5, d7⟩ := unhide HR
    obtain ⟨G1, G2, G3⟩ := unhide HG
    obtain ⟨x2, hx2⟩ : ∃ x2, x2 = 2 * i := ⟨_, rfl⟩
    rw [← hx2] at d1 HBLK
    have hmn := unhide HMN
    have hx2l : x2 < T.length := by omega
    obtain ⟨u2, hu2, ⟨e0, e1, e2, e3⟩, hfz⟩ := (unhide hNX).at hx2l
    have f0 := hfz (x2 * 4); have f1 := hfz (x2 * 4 + 1); have f2 := hfz (x2 * 4 + 2); have f3 := hfz (x2 * 4 + 3)
    have cN := (unhide hNX).cell
    have p1 : 2 * (i : Int) = (x2 : Int) := by omega
    have p2 : (x2 : Int) < (mn : Int) := by omega
    have p3 : (0 : Int) ≤ (x2 : Int) := by omega
    have p4 : (mn : Int) ≤ 15 := by omega
    have hNX4 : Hid (NX W0 ((((wc.setCell ⟨g, x2 * 4, none⟩ (.int .i64 0)).setCell ⟨g, x2 * 4 + 1, none⟩ (.int .i64 0)).setCell ⟨g, x2 * 4 + 2, none⟩ (.int .i64 0)).setCell ⟨g, x2 * 4 + 3, none⟩ (.slice none 0 0)) nb g mn (T.set x2 nd0) (us.set x2 (.slice none 0 0))) := (unhide hNX).set4 hx2l nd0 rfl
    obtain ⟨T1, hT1⟩ : ∃ T1, T1 = T.set x2 nd0 := ⟨_, rfl⟩
    rw [← hT1] at hNX4 HBLK
    have hT1l : T1.length = mn := by rw [hT1, List.length_set, hmn]
    have hnl1 : nlv T1 = n := by unfold nlv; simp [sizes] at r1; omega
    have HU2 : Hid (∀ y, (ndAt T1 y).un.length ≤ 8) := fun k => by
      rw [hT1, ndAt_set]
      split
      · simp [nd0]
      · exact unhide HUN k
    have HN1 := hide (And.intro hT1l (And.intro hnl1 (And.intro r2 (And.intro d4 (And.intro d5 r1)))))
    have HD1 := hide d1
    clear hNX hT1 hT1l hnl1 r1 r2 d1 d4 d5 hmn hx2l HR hu2 hfz hx2 HUN HMN HN G1 G3
    obtain ⟨U, hU⟩ : ∃ U, U = upN n i := ⟨_, rfl⟩
    rw [← hU] at HBLK HN1 HD1 d7
    clear hU
    go_upto_region 10 with fail
    generalize ((((wc.setCell ⟨g, x2 * 4, none⟩ (.int .i64 0)).setCell ⟨g, x2 * 4 + 1, none⟩ (.int .i64 0)).setCell ⟨g, x2 * 4 + 2, none⟩ (.int .i64 0)).setCell ⟨g, x2 * 4 + 3, none⟩ (.slice none 0 0)) = W4 at *
    generalize us.set x2 (.slice none 0 0) = us4 at *
    have cN4 := (unhide hNX4).cell
    have HTRD : Hid (∀ y ∈ T1, y.un.length ≤ 140737488355328) := fun y hy => by
      obtain ⟨k, hk⟩ := List.mem_iff_getElem?.1 hy
      have hlt := (List.getElem?_eq_some_iff.1 hk).1
      rw [ndAt_of hlt] at hk
      cases hk
      have := unhide HU2 k; omega
    obtain ⟨t1, t2, t3, t4, t5, t6⟩ := unhide HN1
    have KA := hide (above_tr ((unhide hNX4).tr.trd (by omega) (unhide HTRD)) (by omega) (unhide HTr _ (unhide HB _ (unhide hNX4).bel).2.2) (show i < nlv T1 by omega))
    rw [t2, show ((2 * i : Nat) : Int) = ((x2 : Nat) : Int) by omega, unhide HD1] at KA
    clear e0 e1 e2 e3 f0 f1 f2 f3 cN t1 t2 t3 t4 t5 t6 HTRD HD1
    obtain ⟨M, hM⟩ : ∃ M, M = U.length := ⟨_, rfl⟩
    have HM := hide hM
    rw [← hM] at d7
    clear hM
    go_wp2_with fail
    refine (unhide KA).mono ?_
    rintro e W5 ⟨rv, rfl, hrv, y5⟩
    have hNX5 := hide ((unhide hNX4).bw y5)
    obtain ⟨ra, rc, hre⟩ := own_slice hrv
    rw [List.length_map, ← unhide HM] at hre
    subst hre
    have HRV : Hid (Ints W4.heap.size W5 (.slice ra M rc) (U.map (fun (x : Nat) => (x : Int))) ∧ ∀ k, (Value.slice ra M rc).ownBlock = some k → k ≠ g) := ⟨hrv, fun k hk c => by
      have h1 := (World.ownsRow.lt hrv k hk).1
      have h2 := ((unhide hNX4).tr.blocks g (by simp)).2
      omega⟩
    clear KA cN4 hNX4 hrv y5 p2 p3
    go_wp2_with fail
    go_loopw [39] (fun iv wr => ∃ (j : Nat) (us' : List Value), iv = .int .i64 (j : Int) ∧ j ≤ M ∧ Hid (NX W0 wr nb g mn (onAll (fun _ => nd0) (U.take j) T1) us') ∧ Hid (Ints W4.heap.size wr (.slice ra M rc) (U.map (fun (x : Nat) => (x : Int))) ∧ ∀ k, (Value.slice ra M rc).ownBlock = some k → k ≠ g)) (fun iv _ => (M - (intOf iv)).toNat)
    case atStart => exact ⟨0, us4, rfl, by omega, by rw [List.take_zero, onAll_nil]; exact hNX5, HRV⟩
    case round =>
      clear HRV hNX5
      obtain ⟨j, us', rfl, hjM, hNX, hRV⟩ := hrel
      by_cases hlt : j < M
      · obtain ⟨x, hx⟩ : ∃ x, U[j]? = some x := ⟨_, List.getElem?_eq_getElem (by have := unhide HM; omega)⟩
        have hxm : x ∈ U := List.mem_of_getElem? hx
        obtain ⟨gu, ou, cu, hue, hcu⟩ := (unhide hRV).1.nums.open (by simp; have := unhide HM; omega)
        rw [List.length_map, ← unhide HM] at hue
        cases hue
        have k1 : wr.cell? ⟨gu, ou + j, none⟩ = some (.int .i64 (x : Int)) := hcu j (x : Int) (by simp [hx])
        obtain ⟨t1, t2, t3, t4, t5, t6⟩ := unhide HN1
        have ht5 := t5 x hxm
        have hTl : (onAll (fun _ => nd0) (U.take j) T1).length = mn := by rw [onAll_len, t1]
        have hsn : Hid (onAll (fun _ => nd0) (U.take (j + 1)) T1 = (onAll (fun _ => nd0) (U.take j) T1).set x nd0) := by
          unfold Hid; rw [List.take_add_one, hx]; show onAll _ (U.take j ++ [x]) _ = _; rw [onAll_snoc]
        have G1 := (unhide HG).1
        have hxl : x < (onAll (fun _ => nd0) (U.take j) T1).length := by omega
        obtain ⟨u2, hu2, ⟨e0, e1, e2, e3⟩, hfz⟩ := (unhide hNX).at hxl
        have f0 := hfz (x * 4); have f1 := hfz (x * 4 + 1); have f2 := hfz (x * 4 + 2); have f3 := hfz (x * 4 + 3)
        have cN := (unhide hNX).cell
        have hNX9 : Hid (NX W0 ((((wr.setCell ⟨g, x * 4, none⟩ (.int .i64 0)).setCell ⟨g, x * 4 + 1, none⟩ (.int .i64 0)).setCell ⟨g, x * 4 + 2, none⟩ (.int .i64 0)).setCell ⟨g, x * 4 + 3, none⟩ (.slice none 0 0)) nb g mn ((onAll (fun _ => nd0) (U.take j) T1).set x nd0) (us'.set x (.slice none 0 0))) := (unhide hNX).set4 hxl nd0 rfl
        have hRV9 : Hid (Ints W4.heap.size ((((wr.setCell ⟨g, x * 4, none⟩ (.int .i64 0)).setCell ⟨g, x * 4 + 1, none⟩ (.int .i64 0)).setCell ⟨g, x * 4 + 2, none⟩ (.int .i64 0)).setCell ⟨g, x * 4 + 3, none⟩ (.slice none 0 0)) (.slice (some ⟨gu, ou, none⟩) M rc) (U.map (fun (x : Nat) => (x : Int))) ∧ ∀ k, (Value.slice (some ⟨gu, ou, none⟩) M rc).ownBlock = some k → k ≠ g) := by
          have f9 : Fr [g] wr ((((wr.setCell ⟨g, x * 4, none⟩ (.int .i64 0)).setCell ⟨g, x * 4 + 1, none⟩ (.int .i64 0)).setCell ⟨g, x * 4 + 2, none⟩ (.int .i64 0)).setCell ⟨g, x * 4 + 3, none⟩ (.slice none 0 0)) :=
            (((((Fr.refl [g] wr).setCell (a := ⟨g, x * 4, none⟩) (Or.inr (by simp)) _).setCell (a := ⟨g, x * 4 + 1, none⟩) (Or.inr (by simp)) _).setCell (a := ⟨g, x * 4 + 2, none⟩) (Or.inr (by simp)) _).setCell (a := ⟨g, x * 4 + 3, none⟩) (Or.inr (by simp)) _)
          exact ⟨own_keep (unhide hRV).1 (fun k hk => f9.block k (World.ownsRow.lt (unhide hRV).1 k hk).2 (by have := (unhide hRV).2 k hk; simpa using this)), (unhide hRV).2⟩
        have q1 : (j : Int) < (M : Int) := by omega
        have q0 : (0 : Int) ≤ (j : Int) := by omega
        have p2 : (x : Int) < (mn : Int) := by omega
        have p3 : (0 : Int) ≤ (x : Int) := by omega
        have hM3 : (M : Int) ≤ 3 := by omega
        generalize onAll (fun _ => nd0) (U.take j) T1 = Tj at *
        clear hcu hx hxm t1 t2 t3 t4 t5 t6 ht5 hTl hxl hfz hu2 hNX hRV G1
        go_wp2_with fail
        generalize ((((wr.setCell ⟨g, x * 4, none⟩ (.int .i64 0)).setCell ⟨g, x * 4 + 1, none⟩ (.int .i64 0)).setCell ⟨g, x * 4 + 2, none⟩ (.int .i64 0)).setCell ⟨g, x * 4 + 3, none⟩ (.slice none 0 0)) = W9 at *
        go_roundw
        case rel => exact ⟨j + 1, _, by go_num, by omega, by rw [unhide hsn]; exact hNX9, hRV9⟩
        case measure => simp [intOf]; omega
      · obtain rfl : j = M := by omega
        have e9 : U.take j = U := List.take_of_length_le (by have := unhide HM; omega)
        rw [e9, ← unhide HBLK] at hNX
        have HBL : Hid ((blk i T).length = mn ∧ Wd (blk i T) ∧ (∀ y ∈ blk i T, y.un.length ≤ 8)) := by
          obtain ⟨t1, t2, t3, t4, t5, t6⟩ := unhide HN1
          have hl : (blk i T).length = mn := by rw [unhide HBLK, onAll_len, t1]
          refine ⟨hl, ⟨n, t6, by have := (unhide HG).1; omega⟩, fun y hy => ?_⟩
          obtain ⟨k, hk⟩ := List.mem_iff_getElem?.1 hy
          have hlt := (List.getElem?_eq_some_iff.1 hk).1
          rw [ndAt_of hlt] at hk
          cases hk
          rw [unhide HBLK, ndAt_onAll _ _ _ _ t4]
          split
          · simp [nd0]
          · exact unhide HU2 k
        obtain ⟨hl, hwd, hun⟩ := unhide HBL
        obtain ⟨w1, w2, w3, w4, w5⟩ := hwd.facts
        have hns := needF_sizes (blk i T) 4 (nlv (blk i T)) w1
        have hnx := unhide hNX
        have htr : Trd wr (.slice (some ⟨g, 0, none⟩) mn mn) (blk i T) := hnx.tr.trd (by omega) (fun y hy => by have := hun y hy; omega)
        have hBs : Hid (∀ W, Below wr.heap.size wr W → Below W0.heap.size W0 W ∧ W.cell? ⟨nb, 0, none⟩ = some (.slice (some ⟨g, 0, none⟩) mn mn)) := fun W hW => ⟨bw_tr hnx.bel hW, (hnx.bw hW).cell⟩
        have KN : Hid (∀ W, Below wr.heap.size wr W → Calls Tryz.prog 248 #[.agg #[.slice (some ⟨g, 0, none⟩) mn mn]] W fun e w' => e = .returned (.int .i64 (need (blk i T) : Nat)) ∧ Below W.heap.size W w') := fun W hW => needed_any (htr.bw hW) hwd
        have KC : Hid (∀ W, Below wr.heap.size wr W → Calls Tryz.prog 167 #[.agg #[.slice (some ⟨g, 0, none⟩) mn mn], .int .i64 (need (blk i T) : Nat)] W fun e w' => ∃ r us, e = .returned (.agg #[r]) ∧ (∃ ra rl rc, r = .slice ra rl rc) ∧ OTr W.heap.size w' r (remT T mm) us ∧ Below W.heap.size W w') := fun W hW => by
          have := copied_any (htr.bw hW) w3 hun (n := need (blk i T)) hns.1
          rw [← unhide HREM] at this
          refine this.mono ?_
          rintro e w' ⟨g', us', h1, h2, h3⟩
          exact ⟨_, us', h1, ⟨_, _, _, rfl⟩, h2, h3⟩
        generalize need (blk i T) = nn at *
        have HS := unhide HS0
        have HNE : Hid (nb ≠ w.heap.size + 1) := fun hc => by
          have h1 := ((unhide HB _ hnx.bel).2.1).1
          have h2 := hnx.box
          rw [hc, h1] at h2
          simp at h2
        have bd : Below wr.heap.size wr wr.drew := (Below.refl _ _).drew
        have S0 := (unhide hBs _ bd).2
        have HRB := hide hnx.bel
        clear hl hwd hun w1 w2 w3 w4 w5 hns hnx htr hNX hRV HBL HN1 HU2 HG HBLK HREM
        go_upto_region 15 with fail
        go_region_held3 (fun w' : World => w'.cell? ⟨nb, 0, none⟩ = some (.slice (some ⟨g, 0, none⟩) mn mn)) (first | with_reducible exact S0 | with_reducible exact S1 | with_reducible exact S2 | with_reducible exact S3) (first
          | (go_at_call 248; refine (unhide KN _ bd).mono ?_; rintro e z1 ⟨rfl, y1⟩; have x1 := bw_tr bd y1; have S1 := (unhide hBs _ x1).2)
          | (go_at_call 167; refine (unhide KC _ x1).mono ?_; rintro e z2 ⟨r, us9, rfl, ⟨ra9, rl9, rc9, rfl⟩, hO9, y2⟩; have x2 := bw_tr x1 y2; have S2 := (unhide hBs _ x2).2; obtain ⟨-, ⟨-, k1, k2⟩, k3⟩ := unhide HB _ (unhide hBs _ x2).1; have S3 : (z2.setCell ⟨w.heap.size + 1, 0, none⟩ (.slice ra9 rl9 rc9)).cell? ⟨nb, 0, none⟩ = some (.slice (some ⟨g, 0, none⟩) mn mn) := cell_keep S2 (Below.heap_setCell _ _ _ _ (unhide HNE)))
          | fail)
        all_goals
          have hx9 := x1.size
          have hr9 := (unhide HRB).size
          have HF : Hid (OTr w.heap.size (z2.setCell ⟨w.heap.size + 1, 0, none⟩ (.slice ra9 rl9 rc9)) (.slice ra9 rl9 rc9) (remT T mm) us9 ∧ Below w.heap.size w (z2.setCell ⟨w.heap.size + 1, 0, none⟩ (.slice ra9 rl9 rc9))) :=
            ⟨(hO9.keepB (fun k hk => Below.heap_setCell _ _ _ _ (by simp; omega))).mono (by omega), k3.setCell (by simp) _⟩
          have cZ : (z2.setCell ⟨w.heap.size + 1, 0, none⟩ (.slice ra9 rl9 rc9)).cell? ⟨w.heap.size + 1, 0, none⟩ = some (.slice ra9 rl9 rc9) := cell_set_same k1 _
          clear hO9
          go_wp2_with fail
          generalize z2.setCell ⟨w.heap.size + 1, 0, none⟩ (.slice ra9 rl9 rc9) = WZ at *
          exact bodyPost_ret (v := .tuple #[.agg #[.slice ra9 rl9 rc9], .int .i64 0]) (by simp [results, Tryz.results150, go_sem, cZ]) rfl ⟨_, _, rfl, (unhide HF).1, (unhide HF).2⟩
end Go.Proofs.YtaanacnloljlmaaGreatDoor
