/- The contract of Add. -/
import Derived.Test.YtpgppnmobbgefaaGreatDoorBbL
import Derived.Deep.CutRange
namespace Go.Proofs.YtpgppnmobbgefaaGreatDoor
open Go.RowKit Go.Maps

def addR (T : List Nd) (m e p : Int) : List Nd := if addE T m e p = 0 then addT T m e p else []
def addA (T : List Nd) (m e p : Int) : Nat := if addE T m e p = 0 then fb T else 0
set_option maxRecDepth 100000 in
set_option maxHeartbeats 8000000 in
theorem add_ok {w : World} {v : Value} {T : List Nd} (h : Trd w v T) (hT : Tab w) (mm ee pp : Int) (hE : addE T mm ee pp = 0) :
    Calls Tryz.prog 23 #[.agg #[v], .agg #[.int .i64 mm, .int .i64 ee, .int .i64 pp]] w fun e w' => ∃ r us, e = .returned (.tuple #[.agg #[r], .int .i64 (fb T : Nat), .int .i64 0]) ∧ OTr w.heap.size w' r (addT T mm ee pp) us ∧ Below w.heap.size w w' := by
  have q : mayB T = true ∧ 0 ≤ mm ∧ 0 ≤ ee ∧ 1 ≤ pp ∧ fnd T mm < 0 ∧ fb T ≠ 8 := by
    unfold addE at hE
    split at hE
    · cases hE
    · rename_i hh
      simp only [not_or, Bool.not_eq_false] at hh
      split at hE
      · cases hE
      · split at hE
        · cases hE
        · exact ⟨hh.1, by omega, by omega, by omega, by omega, by omega⟩
  obtain ⟨qm, q1, q2, q3, q4, q5⟩ := q
  obtain ⟨r1, r2, r3⟩ := wRoom_sizes qm q5
  obtain ⟨d1, d2, d3, d4, d5, d6⟩ := up_of r1 r2
  have d7 := up_len r1 r2
  obtain ⟨a, c, rfl⟩ := h.slice
  obtain ⟨W0, hW0⟩ : ∃ W0, W0 = ((bxw w (.slice a T.length c)).alloc (.cells #[.int .i64 mm, .int .i64 ee, .int .i64 pp] 75)).alloc (.cells #[.slice none 0 0] 24) := ⟨_, rfl⟩
  have hb0 : Below w.heap.size w W0 := by rw [hW0]; exact ((bwA _ _).alloc (by simp) _).alloc (by simp; omega) _
  have hs0 : W0.heap.size = w.heap.size + 3 := by rw [hW0]; simp
  have HB : Hid (∀ W, Below W0.heap.size W0 W → W.cell? ⟨w.heap.size, 0, none⟩ = some (.slice a T.length c) ∧ (W.cell? ⟨w.heap.size + 1, 0, none⟩ = some (.int .i64 mm) ∧ W.cell? ⟨w.heap.size + 1, 1, none⟩ = some (.int .i64 ee) ∧ W.cell? ⟨w.heap.size + 1, 2, none⟩ = some (.int .i64 pp)) ∧ (W.cell? ⟨w.heap.size + 1 + 1, 0, none⟩ = some (.slice none 0 0) ∧ W.frozen? ⟨w.heap.size + 1 + 1, 0, none⟩ = false) ∧ Below w.heap.size w W) := fun W hW => by
    have e0 : W.heap[w.heap.size]? = some (.cells #[.slice a T.length c] 24 (0, 0)) := by
      rw [hW.block _ (by omega), hW0, Below.heap_alloc _ _ _ (by simp; omega), Below.heap_alloc _ _ _ (by simp)]; exact heap_alloc_new _ _
    have e1 : W.heap[w.heap.size + 1]? = some (.cells #[.int .i64 mm, .int .i64 ee, .int .i64 pp] 75 (0, 0)) := by
      rw [hW.block _ (by omega), hW0, Below.heap_alloc _ _ _ (by simp)]
      have := heap_alloc_new (bxw w (.slice a T.length c)) (.cells #[.int .i64 mm, .int .i64 ee, .int .i64 pp] 75)
      simpa using this
    have e2 : W.heap[w.heap.size + 1 + 1]? = some (.cells #[.slice none 0 0] 24 (0, 0)) := by
      rw [hW.block _ (by omega), hW0]
      have := heap_alloc_new ((bxw w (.slice a T.length c)).alloc (.cells #[.int .i64 mm, .int .i64 ee, .int .i64 pp] 75)) (.cells #[.slice none 0 0] 24)
      simpa using this
    exact ⟨cell_of_blk e0 rfl, ⟨cell_of_blk e1 rfl, cell_of_blk e1 rfl, cell_of_blk e1 rfl⟩, ⟨cell_of_blk e2 rfl, by simp [World.frozen?, e2]⟩, bw_tr hb0 hW⟩
  have KM : Hid (∀ W, Below w.heap.size w W → Calls Tryz.prog 44 #[.agg #[.slice a T.length c]] W fun e w' => e = .returned (.bool true) ∧ Below W.heap.size W w') := fun W hW => by
    have := mayBe_any (h.bw hW) (hT.bw hW); rw [qm] at this; exact this
  have KF : Hid (∀ W, Below w.heap.size w W → Calls Tryz.prog 46 #[.agg #[.slice a T.length c], .int .i64 mm] W fun e w' => e = .returned (.int .i64 (fnd T mm)) ∧ Below W.heap.size W w') := fun W hW => find_any (h.bw hW) (mayB_15 qm).1 mm
  have KB : Hid (∀ W, Below w.heap.size w W → Calls Tryz.prog 155 #[.agg #[.slice a T.length c]] W fun e w' => e = .returned (.int .i64 (fb T : Nat)) ∧ Below W.heap.size W w') := fun W hW => firstBlank_any (h.bw hW) (mayB_15 qm).1
  have KL : Hid (∀ W, Calls Tryz.prog 45 #[.agg #[.slice a T.length c]] W fun e w' => e = .returned (.int .i64 (nlv T : Nat)) ∧ Below W.heap.size W w') := fun W => leaves_any a T.length c W h.len
  have KR : Hid (∀ W, Calls Tryz.prog 157 #[.int .i64 (nlv T : Nat), .int .i64 (fb T : Nat)] W fun e w' => e = .returned (.int .i64 (wRoom (nlv T) (fb T) : Nat)) ∧ w' = W) := fun W => withRoom_any _ _ W (by omega)
  obtain ⟨n, hn⟩ : ∃ n, n = wRoom (nlv T) (fb T) := ⟨_, rfl⟩
  have KC : Hid (∀ W, Below w.heap.size w W → Calls Tryz.prog 156 #[.agg #[.slice a T.length c], .int .i64 (n : Int)] W fun e w' => ∃ g us, e = .returned (.agg #[.slice (some ⟨g, 0, none⟩) (2 * n - 1) (2 * n - 1)]) ∧ OTr W.heap.size w' (.slice (some ⟨g, 0, none⟩) (2 * n - 1) (2 * n - 1)) (fit (2 * n - 1) T) us ∧ Below W.heap.size W w') := fun W hW => copied_any (h.bw hW) (mayB_15 qm).1 (un_len qm) (by rw [hn]; exact r1)
  rw [← hn] at KR r1 r2 d1 d2 d3 d4 d5 d6 d7
  have HTr : Hid (∀ W, Below w.heap.size w W → Tab W) := fun W hW => hT.bw hW
  have HW : Hid (W0 = ((w.alloc (.cells #[.slice a T.length c] 24)).alloc (.cells #[.int .i64 mm, .int .i64 ee, .int .i64 pp] 75)).alloc (.cells #[.slice none 0 0] 24)) := hW0
  have n1 : decide (mm < 0) = false := decide_eq_false (by omega)
  have n2 : decide (ee < 0) = false := decide_eq_false (by omega)
  have n3 : decide (pp < 1) = false := decide_eq_false (by omega)
  have n4 : decide (0 ≤ fnd T mm) = false := decide_eq_false (by omega)
  have n5 : (((fb T : Nat) : Int) == 8) = false := beq_false_of_ne (by omega)
  have n6 : decide (((fb T : Nat) : Int) = 8) = false := decide_eq_false (by omega)
  have n7 : ((fb T : Nat) : Int) ≤ 8 := by have := fb_le T; omega
  have HADD : Hid (addT T mm ee pp = onAll (addU (fb T : Nat)) (upN n (fb T)) ((fit (2 * n - 1) T).set (2 * fb T) ⟨pp, mm, ee, []⟩)) := by unfold Hid addT; rw [← hn]
  have HUN : Hid (∀ x, (ndAt T x).un.Pairwise (· ≤ ·) ∧ (ndAt T x).un.length ≤ 8) := un_ok qm
  have HR := hide (And.intro r1 (And.intro r2 (And.intro d1 (And.intro d4 (And.intro d5 d7)))))
  have HS0 := hide hs0
  clear hE q1 q2 q3 q4 q5 r1 r2 d1 d2 d3 d4 d5 d6 d7 hW0 h hT qm hn hs0
  generalize fnd T mm = fm at *
  generalize nlv T = nl at *
  generalize hfb : fb T = i at *
  clear hfb
  generalize T.length = N at *
  go_enter Tryz.func23, Tryz.ntmps23
  go_wp2_with fail
  rw [← unhide HW]
  refine (unhide KM _ hb0).mono ?_
  rintro e W1 ⟨rfl, b1⟩
  obtain ⟨c0, ⟨c1, c2, c3⟩, -, hw1⟩ := unhide HB _ b1
  clear KM HW
  go_wp2_with fail
  refine (unhide KF _ hw1).mono ?_
  rintro e W2 ⟨rfl, b2⟩
  have b3 := bw_tr b1 b2
  clear c0 c1 c2 c3 KF b2
  obtain ⟨c0, -, -, hw3⟩ := unhide HB _ b3
  go_wp2_with fail
  refine (unhide KB _ hw3).mono ?_
  rintro e W3 ⟨rfl, b4⟩
  have b5 := bw_tr b3 b4
  clear c0 KB b4 b3 b1 hw1 hw3
  obtain ⟨c0, -, -, hw5⟩ := unhide HB _ b5
  clear n1 n2 n3 n4
  obtain ⟨mn, hmn⟩ : ∃ mn, mn = 2 * n - 1 := ⟨_, rfl⟩
  have HMN := hide hmn
  rw [← hmn] at KC HADD
  clear hmn
  obtain ⟨F, hF⟩ : ∃ F, F = fit mn T := ⟨_, rfl⟩
  rw [← hF] at KC HADD
  have HFF := hide hF
  clear hF
  have bA : Below W0.heap.size W0 W3.drew := b5.drew
  have bB : Below W0.heap.size W0 (W3.alloc (.cells #[.slice none 0 0] 24)).drew := (b5.alloc b5.size _).drew
  have k0 : (W3.alloc (.cells #[.slice none 0 0] 24)).drew.heap[W3.heap.size]? = some (.cells #[.slice none 0 0] 24 (0, 0)) := heap_alloc_new W3 _
  have S0 := (unhide HB _ bA).1
  have S0b := (unhide HB _ bB).1
  have KC2 : Hid (∀ W, Below W0.heap.size W0 W → Calls Tryz.prog 156 #[.agg #[.slice a N c], .int .i64 (n : Int)] W fun e w' => ∃ g us, e = .returned (.agg #[.slice (some ⟨g, 0, none⟩) mn mn]) ∧ OTr W.heap.size w' (.slice (some ⟨g, 0, none⟩) mn mn) F us ∧ Below W.heap.size W w') := fun W hW => unhide KC W (unhide HB _ hW).2.2.2
  clear KC
  have hA3 : W0.heap.size ≤ W3.heap.size := bA.size
  go_upto_region 8 with fail
  go_cut [8] from 41 to 47 (fun s8 wx => ∃ nb g us, s8 = .pointer (some ⟨nb, 0, none⟩) ∧ Hid (NX W0 wx nb g mn F us))
  case first =>
    go_region_held3 (fun w' : World => w'.cell? ⟨w.heap.size, 0, none⟩ = some (.slice a N c)) (first | with_reducible exact S0 | with_reducible exact S0b | with_reducible exact S1 | with_reducible exact S1b | with_reducible exact S3 | with_reducible exact S3b | with_reducible exact S3c | with_reducible exact S3d) (first
      | (go_at_call 45; refine (unhide KL _).mono ?_; rintro e z1 ⟨rfl, y1⟩; first
        | (have x1 : Below W0.heap.size W0 z1 := bw_tr bA y1; have S1 := (unhide HB _ x1).1; have x1b := x1.alloc x1.size (.cells #[.slice none 0 0] 24); have S1b := (unhide HB _ x1b).1)
        | (have x1 : Below W0.heap.size W0 z1 := bw_tr bB y1; have S1 := (unhide HB _ x1).1; have k1 := kept1 k0 y1) | fail)
      | (go_at_call 157; refine (unhide KR _).mono ?_; rintro e z1 ⟨rfl, rfl⟩)
      | (go_at_call 156; first
        | (with_reducible refine (unhide KC2 _ x1).mono ?_; rintro e z3 ⟨g, us, rfl, hO, y3⟩; have x3 := bw_tr x1 y3; have O3 := hO.mono x1.size; have S3 := (unhide HB _ x3).1; have S3b := (unhide HB _ (x3.alloc x3.size (.cells #[.slice (some ⟨g, 0, none⟩) mn mn] 24))).1; have S3d := (unhide HB _ (x3.alloc x3.size (.cells #[.slice none 0 0] 24))).1; try (have k3 : z3.heap[W3.heap.size]? = some (.cells #[.slice none 0 0] 24 (0, 0)) := kept1 k1 y3; have k4 : z3.cell? ⟨W3.heap.size, 0, none⟩ = some (.slice none 0 0) := cell_of_blk k3 rfl; have k5 : z3.frozen? ⟨W3.heap.size, 0, none⟩ = false := frozen_of_blk k3; have hN := nx_put x3 O3 k3 hA3; have S3c := (unhide HB _ hN.bel).1))
        | (with_reducible refine (unhide KC2 _ x1b).mono ?_; rintro e z3 ⟨g, us, rfl, hO, y3⟩; have x3 := bw_tr x1b y3; have O3 := hO.mono x1b.size; have S3 := (unhide HB _ x3).1; have k3 := new1 y3; have k4 : z3.cell? ⟨z1.heap.size, 0, none⟩ = some (.slice none 0 0) := cell_of_blk k3 rfl; have k5 : z3.frozen? ⟨z1.heap.size, 0, none⟩ = false := frozen_of_blk k3; have hN := nx_put x3 O3 k3 x1.size; have S3c := (unhide HB _ hN.bel).1) | fail) | fail)
    all_goals
      go_wp2_with fail
      go_meet
      case rel => first | exact ⟨_, _, _, rfl, hN⟩ | exact ⟨_, _, _, rfl, nx_new x3 O3⟩
  case rest =>
    obtain ⟨nb, g, us, rfl, hNX⟩ := hcut
    clear bA bB k0 S0 S0b KC2 KL KR c0 b5 hw5 hA3 n5 n6
    obtain ⟨r1, r2, d1, d4, d5, d7⟩ := unhide HR
    obtain ⟨x2, hx2⟩ : ∃ x2, x2 = 2 * i := ⟨_, rfl⟩
    rw [← hx2] at d1 HADD
    have hFl : F.length = mn := by rw [unhide HFF, fit_len]
    have hmn := unhide HMN
    have hx2l : x2 < F.length := by omega
    obtain ⟨u2, hu2, ⟨e0, e1, e2, e3⟩, hfz⟩ := (unhide hNX).at hx2l
    have f0 := hfz (x2 * 4); have f1 := hfz (x2 * 4 + 1); have f2 := hfz (x2 * 4 + 2); have f3 := hfz (x2 * 4 + 3)
    have cN := (unhide hNX).cell
    obtain ⟨-, ⟨c1, c2, c3⟩, -, -⟩ := unhide HB _ (unhide hNX).bel
    have hmn15 : mn ≤ 15 := by simp [sizes] at r1; omega
    have p1 : 2 * (i : Int) = (x2 : Int) := by omega
    have p2 : (x2 : Int) < (mn : Int) := by omega
    have p3 : (0 : Int) ≤ (x2 : Int) := by omega
    have p4 : (mn : Int) ≤ 15 := by omega
    have hNX4 : Hid (NX W0 ((((wc.setCell ⟨g, x2 * 4, none⟩ (.int .i64 pp)).setCell ⟨g, x2 * 4 + 1, none⟩ (.int .i64 mm)).setCell ⟨g, x2 * 4 + 2, none⟩ (.int .i64 ee)).setCell ⟨g, x2 * 4 + 3, none⟩ (.slice none 0 0)) nb g mn (F.set x2 ⟨pp, mm, ee, []⟩) (us.set x2 (.slice none 0 0))) := (unhide hNX).set4 hx2l ⟨pp, mm, ee, []⟩ rfl
    obtain ⟨T1, hT1⟩ : ∃ T1, T1 = F.set x2 ⟨pp, mm, ee, []⟩ := ⟨_, rfl⟩
    rw [← hT1] at hNX4 HADD
    have hT1l : T1.length = mn := by rw [hT1, List.length_set, hFl]
    have hnl1 : nlv T1 = n := by unfold nlv; simp [sizes] at r1; omega
    have HU1 : Hid (∀ x, x ∈ upN n i → (ndAt T1 x).un.Pairwise (· ≤ ·) ∧ (ndAt T1 x).un.length ≤ 8) := fun x hx => by
      have := d5 x hx
      rw [hT1, ndAt_set, if_neg (by omega), unhide HFF, ndAt_fit (by omega)]; exact unhide HUN x
    have HU2 : Hid (∀ y ∈ T1, y.un.length ≤ 140737488355328) := fun y hy => by
      obtain ⟨k, hk⟩ := List.mem_iff_getElem?.1 hy
      have hlt := (List.getElem?_eq_some_iff.1 hk).1
      rw [ndAt_of hlt] at hk
      cases hk
      rw [hT1, ndAt_set]
      split
      · simp
      · rw [unhide HFF, ndAt_fit (by omega)]; have := (unhide HUN k).2; omega
    have HN1 := hide (And.intro hT1l (And.intro hnl1 (And.intro r2 (And.intro d4 d5))))
    have HD1 := hide d1
    have HMN2 : Hid (2 * n - 1 = mn) := hmn.symm
    clear hNX hT1 hT1l hnl1 r1 r2 d1 d4 d5 hFl hmn hx2l HR HFF HMN hu2 hfz hx2
    obtain ⟨U, hU⟩ : ∃ U, U = upN n i := ⟨_, rfl⟩
    rw [← hU] at HADD HU1 HN1 HD1 d7
    clear hU
    go_upto_region 10 with fail
    generalize ((((wc.setCell ⟨g, x2 * 4, none⟩ (.int .i64 pp)).setCell ⟨g, x2 * 4 + 1, none⟩ (.int .i64 mm)).setCell ⟨g, x2 * 4 + 2, none⟩ (.int .i64 ee)).setCell ⟨g, x2 * 4 + 3, none⟩ (.slice none 0 0)) = W4 at *
    generalize us.set x2 (.slice none 0 0) = us4 at *
    have cN4 := (unhide hNX4).cell
    obtain ⟨t1, t2, t3, t4, t5⟩ := unhide HN1
    have KA := hide (above_tr ((unhide hNX4).tr.trd (by omega) (unhide HU2)) (by omega) (unhide HTr _ (unhide HB _ (unhide hNX4).bel).2.2.2) (show i < nlv T1 by omega))
    rw [t2, show ((2 * i : Nat) : Int) = ((x2 : Nat) : Int) by omega, unhide HD1] at KA
    clear e0 e1 e2 e3 f0 f1 f2 f3 cN c1 c2 c3 t1 t2 t3 t4 t5 HU2 HD1
    obtain ⟨M, hM⟩ : ∃ M, M = U.length := ⟨_, rfl⟩
    have HM := hide hM
    rw [← hM] at d7
    clear hM
    go_wp2_with fail
    refine (unhide KA).mono ?_
    rintro e W5 ⟨rv, rfl, hrv, y5⟩
    have hNX5 := hide ((unhide hNX4).bw y5)
    obtain ⟨ra, rc, hre⟩ := own_slice hrv
    rw [List.length_map, ← unhide HM] at hre
    subst hre
    have HRV : Hid (Ints W4.heap.size W5 (.slice ra M rc) (U.map (fun (x : Nat) => (x : Int))) ∧ ∀ k, (Value.slice ra M rc).ownBlock = some k → k ∉ g :: rrB us4) := ⟨hrv, fun k hk c => by
      have h1 := (World.ownsRow.lt hrv k hk).1
      have h2 := ((unhide hNX4).tr.blocks k c).2
      omega⟩
    clear KA cN4 hNX4 hrv y5 p2 p3
    go_wp2_with fail
    go_loopw [63] (fun iv wr => ∃ (j : Nat) (us' : List Value), iv = .int .i64 (j : Int) ∧ j ≤ M ∧ Hid (NX W0 wr nb g mn (onAll (addU (i : Nat)) (U.take j) T1) us') ∧ Hid (Ints W4.heap.size wr (.slice ra M rc) (U.map (fun (x : Nat) => (x : Int))) ∧ ∀ k, (Value.slice ra M rc).ownBlock = some k → k ∉ g :: rrB us')) (fun iv _ => (M - (intOf iv)).toNat)
    case atStart => exact ⟨0, us4, rfl, by omega, by rw [List.take_zero, onAll_nil]; exact hNX5, HRV⟩
    case round =>
      clear HRV hNX5
      obtain ⟨j, us', rfl, hjM, hNX, hRV⟩ := hrel
      by_cases hlt : j < M
      · obtain ⟨x, hx⟩ : ∃ x, U[j]? = some x := ⟨_, List.getElem?_eq_getElem (by have := unhide HM; omega)⟩
        have hxm : x ∈ U := List.mem_of_getElem? hx
        obtain ⟨gu, ou, cu, hue, hcu⟩ := (unhide hRV).1.nums.open (by simp; have := unhide HM; omega)
        rw [List.length_map, ← unhide HM] at hue
        cases hue
        have k1 : wr.cell? ⟨gu, ou + j, none⟩ = some (.int .i64 (x : Int)) := hcu j (x : Int) (by simp [hx])
        obtain ⟨t1, t2, t3, t4, t5⟩ := unhide HN1
        have ht5 := t5 x hxm
        have hTl : (onAll (addU (i : Nat)) (U.take j) T1).length = mn := by rw [onAll_len, t1]
        have hnot : x ∉ U.take j := by
          intro c
          obtain ⟨q, hq⟩ := List.mem_iff_getElem?.1 c
          have hql : q < j := by have := (List.getElem?_eq_some_iff.1 hq).1; simp at this; omega
          rw [List.getElem?_take_of_lt hql] at hq
          have := List.pairwise_iff_getElem.1 (List.nodup_iff_pairwise_ne.1 t4) q j (by have := unhide HM; omega) (by have := unhide HM; omega) hql
          rw [(List.getElem?_eq_some_iff.1 hq).2, (List.getElem?_eq_some_iff.1 hx).2] at this
          exact this rfl
        have hnd : ndAt (onAll (addU (i : Nat)) (U.take j) T1) x = ndAt T1 x := by rw [ndAt_onAll _ _ _ _ t4.take, if_neg (by simp [hnot])]
        have hsn : Hid (onAll (addU (i : Nat)) (U.take (j + 1)) T1 = (onAll (addU (i : Nat)) (U.take j) T1).set x (addU (i : Nat) (ndAt T1 x))) := by
          unfold Hid; rw [List.take_add_one, hx]; show onAll _ (U.take j ++ [x]) _ = _; rw [onAll_snoc, hnd]
        have hget : (onAll (addU (i : Nat)) (U.take j) T1)[x]? = some (ndAt T1 x) := by rw [← hnd]; exact ndAt_of (by have := unhide HMN2; omega)
        have KU := hide (addUnmerged_any (unhide hNX).tr hget (unhide HU1 x hxm).1 (unhide HU1 x hxm).2 (i := i) (unhide hNX).bel.size)
        have cN := (unhide hNX).cell
        have q1 : (j : Int) < (M : Int) := by omega
        have q0 : (0 : Int) ≤ (j : Int) := by omega
        have p2 : (x : Int) < (mn : Int) := by have := unhide HMN2; omega
        have p3 : (0 : Int) ≤ (x : Int) := by omega
        have hM3 : (M : Int) ≤ 3 := by omega
        generalize onAll (addU (i : Nat)) (U.take j) T1 = Tj at *
        clear hcu hx hxm t1 t2 t3 t4 t5 ht5 hTl hnot hnd hget
        go_wp2_with fail
        refine (unhide KU).mono ?_
        rintro e w9 ⟨rfl, us9, hO9, hMv⟩
        have hNX9 := hide ((unhide hNX).fr hO9 hMv.fr)
        have hRV9 : Hid (Ints W4.heap.size w9 (.slice (some ⟨gu, ou, none⟩) M rc) (U.map (fun (x : Nat) => (x : Int))) ∧ ∀ k, (Value.slice (some ⟨gu, ou, none⟩) M rc).ownBlock = some k → k ∉ g :: rrB us9) := by
          refine ⟨own_keep (unhide hRV).1 (fun k hk => hMv.fr.block k (World.ownsRow.lt (unhide hRV).1 k hk).2 ((unhide hRV).2 k hk)), fun k hk c => ?_⟩
          rcases hMv.place k c with q | q
          · exact (unhide hRV).2 k hk q
          · have := (World.ownsRow.lt (unhide hRV).1 k hk).2; omega
        clear KU hO9 hMv hNX hRV
        go_wp2_with fail
        go_roundw
        case rel => exact ⟨j + 1, us9, by go_num, by omega, by rw [unhide hsn]; exact hNX9, hRV9⟩
        case measure => simp [intOf]; omega
      · obtain rfl : j = M := by omega
        have e9 : U.take j = U := List.take_of_length_le (by have := unhide HM; omega)
        rw [e9, ← unhide HADD] at hNX
        have cN := (unhide hNX).cell
        obtain ⟨-, -, ⟨cR, fR⟩, cW⟩ := unhide HB _ (unhide hNX).bel
        have HS := unhide HS0
        have HF : Hid (OTr w.heap.size (wr.setCell ⟨w.heap.size + 1 + 1, 0, none⟩ (.slice (some ⟨g, 0, none⟩) mn mn)) (.slice (some ⟨g, 0, none⟩) mn mn) (addT T mm ee pp) us' ∧ Below w.heap.size w (wr.setCell ⟨w.heap.size + 1 + 1, 0, none⟩ (.slice (some ⟨g, 0, none⟩) mn mn))) :=
          ⟨((unhide hNX).tr.keepB (fun k hk => Below.heap_setCell _ _ _ _ (by simp; omega))).mono (by omega), cW.setCell (by simp; omega) _⟩
        have cZ : (wr.setCell ⟨w.heap.size + 1 + 1, 0, none⟩ (.slice (some ⟨g, 0, none⟩) mn mn)).cell? ⟨w.heap.size + 1 + 1, 0, none⟩ = some (.slice (some ⟨g, 0, none⟩) mn mn) := cell_set_same cR _
        clear hNX HS cW
        go_wp2_with fail
        generalize wr.setCell ⟨w.heap.size + 1 + 1, 0, none⟩ (.slice (some ⟨g, 0, none⟩) mn mn) = WZ at *
        exact bodyPost_ret (v := .tuple #[.agg #[.slice (some ⟨g, 0, none⟩) mn mn], .int .i64 (i : Int), .int .i64 0]) (by simp [results, Tryz.results23, go_sem, cZ]) rfl ⟨_, _, rfl, (unhide HF).1, (unhide HF).2⟩
end Go.Proofs.YtpgppnmobbgefaaGreatDoor
