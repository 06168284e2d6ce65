/- Texts joined: LgN LgO LgP LgQ LgToP. -/
import Derived.Test.YtnfhbmlmemifjaaGreatDoorZ25
import Derived.Test.YtnfhbmlmemifjaaGreatDoorZ20
import Derived.Deep.RegionHeld3
import Derived.Deep.QuietTactic
import Derived.BigQuiet
import Derived.Test.YtnfhbmlmemifjaaGreatDoorZ05
/- May a commit be taken, may a log be (mayBeTaken, mayBeOne). -/
namespace Go.Proofs.YtnfhbmlmemifjaaGreatDoor
open Go.RowKit Go.Maps
set_option maxRecDepth 100000 in
set_option maxHeartbeats 4000000 in
theorem taken_any {w : World} {c : Cm} {x : Cv} (h : CmR w c x) (hT : Tab w) :
    Calls Tryz.prog 165 #[cmV c x] w fun e w' => e = .returned (.bool (mayC c)) ∧ Below w.heap.size w w' := by
  obtain ⟨a1, k1, e1⟩ := h.adds.slice
  obtain ⟨a2, k2, e2⟩ := nums_slice h.rem
  obtain ⟨a3, k3, e3⟩ := h.seals.slice
  obtain ⟨a4, k4, e4⟩ := h.joins.slice
  obtain ⟨a5, k5, e5⟩ := h.next.slice
  obtain ⟨w0, hw0⟩ : ∃ w0, w0 = w.alloc (.cells (cmC c x).toArray 34) := ⟨_, rfl⟩
  have bl : Below w.heap.size w w0 := by rw [hw0]; exact bwA _ _
  have kk : w0.heap[w.heap.size]? = some (.cells (cmC c x).toArray 34 (0, 0)) := by rw [hw0]; exact heap_alloc_new _ _
  have KT := check_any (h.next.bw bl) (hT.bw bl)
  obtain ⟨mb, hmb⟩ : ∃ b, b = mayB c.next := ⟨_, rfl⟩
  rw [← hmb] at KT
  have hm : mayC c = (decide (0 ≤ c.ep) && mb && decide (c.next.length ≠ 0)) := by rw [hmb]; rfl
  rw [hm]
  clear hm hmb
  obtain ⟨g0, g1, g2, g3, g4, g5, adds, rem, seals, joins, g10, g11, next, g13, g14⟩ := c
  obtain ⟨av, rv, qv, jv, nv⟩ := x
  simp only at e1 e2 e3 e4 e5 KT
  subst e1 e2 e3 e4 e5
  have hnl : next.length ≤ 140737488355328 := h.next.len
  generalize adds.length = LA at *
  generalize rem.length = LR at *
  generalize seals.length = LQ at *
  generalize joins.length = LJ at *
  generalize next.length = LN at *
  have hNb : (LN : Int) ≤ 140737488355328 := by omega
  have c1 : w0.cell? ⟨w.heap.size, 1, none⟩ = some (.int .i64 g1) := blk_c kk rfl
  have c12 : w0.cell? ⟨w.heap.size, 12, none⟩ = some (.slice a5 LN k5) := blk_c kk rfl
  have HW : Hid (w0 = w.alloc (.cells #[.int .i64 g0, .int .i64 g1, .int .i64 g2, .int .i64 g3, .int .i64 g4, .bool g5, .slice a1 LA k1, .slice a2 LR k2, .slice a3 LQ k3, .slice a4 LJ k4, .int .i64 g10, .int .i64 g11, .slice a5 LN k5, .int .i64 g13, .int .i64 g14] 34)) := hw0
  have KH := hide KT
  have BL := hide bl
  unfold cmV cmC
  clear h hw0 kk KT bl hnl hT
  by_cases hg : 0 ≤ g1
  · have hd : decide (0 ≤ g1) = true := decide_eq_true hg
    rw [hd]
    clear hg
    rcases Nat.eq_zero_or_pos LN with z | z
    · subst z
      go_enter Tryz.func165, Tryz.ntmps165
      go_upto_region 1 with fail
      rw [← unhide HW]
      clear HW
      go_wp2_with fail
      go_ret
      exact ⟨by simp, unhide BL⟩
    · have hz : (0 : Int) < (LN : Int) := by omega
      have hn : LN ≠ 0 := by omega
      rw [show decide (LN ≠ 0) = true from decide_eq_true hn]
      go_enter Tryz.func165, Tryz.ntmps165
      go_upto_region 1 with fail
      rw [← unhide HW]
      clear HW
      go_wp2_with fail
      refine (unhide KH).mono ?_
      rintro e w1 ⟨rfl, b1⟩
      have B1 := hide (bw_tr (unhide BL) b1)
      clear b1
      cases mb with
      | true =>
        simp only [if_true] at *
        go_wp2_with fail
        go_ret
        exact ⟨rfl, unhide B1⟩
      | false =>
        simp only [Bool.false_eq_true, if_false] at *
        go_wp2_with fail
        go_ret
        exact ⟨rfl, unhide B1⟩
  · have hd : decide (0 ≤ g1) = false := decide_eq_false hg
    rw [hd]
    go_enter Tryz.func165, Tryz.ntmps165
    go_upto_region 1 with fail
    rw [← unhide HW]
    clear HW
    go_wp2_with fail
    go_ret
    exact ⟨rfl, unhide BL⟩
set_option maxRecDepth 100000 in
set_option maxHeartbeats 8000000 in
theorem mayOne_any {w : World} {p : Lg} {v : Value} (h : Cms w v p.2) (hT : Tab w) :
    Calls Tryz.prog 187 #[.agg #[.int .i64 p.1, v]] w fun e w' => e = .returned (.bool (logB p)) ∧ Below w.heap.size w w' := by
  obtain ⟨a, cap, rfl⟩ := h.slice
  have hl := h.len
  obtain ⟨w0, hw0⟩ : ∃ w0, w0 = w.alloc (.cells #[.int .i64 p.1, .slice a p.2.length cap] 95) := ⟨_, rfl⟩
  have bl : Below w.heap.size w w0 := by rw [hw0]; exact bwA _ _
  have kk : w0.heap[w.heap.size]? = some (.cells #[.int .i64 p.1, .slice a p.2.length cap] 95 (0, 0)) := by rw [hw0]; exact heap_alloc_new _ _
  obtain ⟨pg, hpg⟩ : ∃ z, z = p.1 := ⟨_, rfl⟩
  obtain ⟨M, hM⟩ : ∃ z, z = p.2.length := ⟨_, rfl⟩
  obtain ⟨r, hr⟩ : ∃ r, r = logB p := ⟨_, rfl⟩
  rw [← hpg, ← hM] at kk hw0
  rw [← hpg, ← hM, ← hr]
  rw [← hM] at hl h
  have hMI : (M : Int) ≤ 140737488355328 := by omega
  have HP : Hid (∀ W, Below w0.heap.size w0 W → W.cell? ⟨w.heap.size, 0, none⟩ = some (.int .i64 pg) ∧ W.cell? ⟨w.heap.size, 1, none⟩ = some (.slice a M cap) ∧ Cms W (.slice a M cap) p.2 ∧ Tab W ∧ Below w.heap.size w W) := fun W hW => by
    have k2 := kept_b kk (lt_of_blk kk) hW
    exact ⟨blk_c k2 rfl, blk_c k2 rfl, (h.bw bl).bw hW, (hT.bw bl).bw hW, bw_tr bl hW⟩
  have HH := hide (And.intro hpg (And.intro hM hr))
  have HW := hide hw0
  have c1 : w0.cell? ⟨w.heap.size, 1, none⟩ = some (.slice a M cap) := blk_c kk rfl
  clear h hl hT hw0 bl kk hpg hM hr
  go_enter Tryz.func187, Tryz.ntmps187
  go_upto_region 1 with fail
  rw [← unhide HW]
  clear HW
  go_wp2_with fail
  clear c1
  go_loopw [8] (fun iv wr => ∃ i : Nat, i ≤ M ∧ iv = .int .i64 (i : Int) ∧ Hid (Below w0.heap.size w0 wr ∧ ∀ j c, j < i → p.2[j]? = some c → okC p.1 j c)) (fun iv _ => (M - intOf iv).toNat)
  case atStart => exact ⟨0, Nat.zero_le _, rfl, Below.refl _ _, fun j c hj => absurd hj (by omega)⟩
  case round =>
    obtain ⟨i, hi, rfl, HK⟩ := hrel
    by_cases hlt : i < M
    · have hiI : (i : Int) < (M : Int) := by omega
      have h0 : (0 : Int) ≤ (i : Int) := by omega
      obtain ⟨f0, f1, hcw, hT, B0⟩ := unhide HP wr (unhide HK).1
      obtain ⟨c, hc⟩ : ∃ c, p.2[i]? = some c := ⟨_, List.getElem?_eq_getElem (by have := (unhide HH).2.1; omega)⟩
      obtain ⟨b', o', rfl, x, hx, hcc⟩ := hcw.get hc
      obtain ⟨a1, k1, x1⟩ := hx.adds.slice
      obtain ⟨a2, k2, x2⟩ := nums_slice hx.rem
      obtain ⟨a3, k3, x3⟩ := hx.seals.slice
      obtain ⟨a4, k4, x4⟩ := hx.joins.slice
      obtain ⟨a5, k5, x5⟩ := hx.next.slice
      obtain ⟨W1, hW1⟩ : ∃ W1, W1 = wr.alloc (.cells (cmC c x).toArray 34) := ⟨_, rfl⟩
      have bl : Below wr.heap.size wr W1 := by rw [hW1]; exact bwA _ _
      have kk : W1.heap[wr.heap.size]? = some (.cells (cmC c x).toArray 34 (0, 0)) := by rw [hW1]; exact heap_alloc_new _ _
      have KM := taken_any (hx.bw bl) (hT.bw bl)
      obtain ⟨mb, hmb⟩ : ∃ z, z = mayC c := ⟨_, rfl⟩
      obtain ⟨OK, hOK⟩ : ∃ P : Prop, P = okC p.1 i c := ⟨_, rfl⟩
      have HOK : Hid (OK ↔ c.gr = pg ∧ c.ep = (i : Int) ∧ mb = true) := by
        rw [hOK, (unhide HH).1, hmb]; exact Iff.rfl
      have HBD : Hid (¬ OK → r = false) := fun hn => by
        rw [hOK] at hn
        rw [(unhide HH).2.2]
        cases hq : logB p with
        | false => rfl
        | true => exact absurd ((log_iff.1 hq).2 i c hc) hn
      have HNX : Hid (OK → ∀ j c', j < i + 1 → p.2[j]? = some c' → okC p.1 j c') := fun ho j c' hj hc' => by
        rw [hOK] at ho
        rcases Nat.lt_or_ge j i with d | d
        · exact (unhide HK).2 j c' d hc'
        · obtain rfl : j = i := by omega
          rw [hc] at hc'; cases hc'; exact ho
      have BB := hide (And.intro (bw_tr (unhide HK).1 bl) (bw_tr B0 bl))
      have f0' : W1.cell? ⟨w.heap.size, 0, none⟩ = some (.int .i64 pg) := by rw [bl.cell (lt_of_cell f0)]; exact f0
      rw [← hmb] at KM
      clear hmb hOK hc hcw HK B0 hT
      obtain ⟨g0, g1, g2, g3, g4, g5, adds, rem, seals, joins, g10, g11, next, g13, g14⟩ := c
      obtain ⟨av, rv, qv, jv, nv⟩ := x
      simp only at x1 x2 x3 x4 x5 HOK
      subst x1 x2 x3 x4 x5
      generalize adds.length = LA at *
      generalize rem.length = LR at *
      generalize seals.length = LQ at *
      generalize joins.length = LJ at *
      generalize next.length = LN at *
      have y0 : wr.cell? ⟨b', o' + i * 15, none⟩ = some (.int .i64 g0) := hcc 0 _ rfl
      have y1 : wr.cell? ⟨b', o' + i * 15 + 1, none⟩ = some (.int .i64 g1) := hcc 1 _ rfl
      have y2 : wr.cell? ⟨b', o' + i * 15 + 2, none⟩ = some (.int .i64 g2) := hcc 2 _ rfl
      have y3 : wr.cell? ⟨b', o' + i * 15 + 3, none⟩ = some (.int .i64 g3) := hcc 3 _ rfl
      have y4 : wr.cell? ⟨b', o' + i * 15 + 4, none⟩ = some (.int .i64 g4) := hcc 4 _ rfl
      have y5 : wr.cell? ⟨b', o' + i * 15 + 5, none⟩ = some (.bool g5) := hcc 5 _ rfl
      have y6 : wr.cell? ⟨b', o' + i * 15 + 6, none⟩ = some (.slice a1 LA k1) := hcc 6 _ rfl
      have y7 : wr.cell? ⟨b', o' + i * 15 + 7, none⟩ = some (.slice a2 LR k2) := hcc 7 _ rfl
      have y8 : wr.cell? ⟨b', o' + i * 15 + 8, none⟩ = some (.slice a3 LQ k3) := hcc 8 _ rfl
      have y9 : wr.cell? ⟨b', o' + i * 15 + 9, none⟩ = some (.slice a4 LJ k4) := hcc 9 _ rfl
      have y10 : wr.cell? ⟨b', o' + i * 15 + 10, none⟩ = some (.int .i64 g10) := hcc 10 _ rfl
      have y11 : wr.cell? ⟨b', o' + i * 15 + 11, none⟩ = some (.int .i64 g11) := hcc 11 _ rfl
      have y12 : wr.cell? ⟨b', o' + i * 15 + 12, none⟩ = some (.slice a5 LN k5) := hcc 12 _ rfl
      have y13 : wr.cell? ⟨b', o' + i * 15 + 13, none⟩ = some (.int .i64 g13) := hcc 13 _ rfl
      have y14 : wr.cell? ⟨b', o' + i * 15 + 14, none⟩ = some (.int .i64 g14) := hcc 14 _ rfl
      have s0 : W1.cell? ⟨wr.heap.size, 0, none⟩ = some (.int .i64 g0) := blk_c kk rfl
      have s1 : W1.cell? ⟨wr.heap.size, 1, none⟩ = some (.int .i64 g1) := blk_c kk rfl
      have s2 : W1.cell? ⟨wr.heap.size, 2, none⟩ = some (.int .i64 g2) := blk_c kk rfl
      have s3 : W1.cell? ⟨wr.heap.size, 3, none⟩ = some (.int .i64 g3) := blk_c kk rfl
      have s4 : W1.cell? ⟨wr.heap.size, 4, none⟩ = some (.int .i64 g4) := blk_c kk rfl
      have s5 : W1.cell? ⟨wr.heap.size, 5, none⟩ = some (.bool g5) := blk_c kk rfl
      have s6 : W1.cell? ⟨wr.heap.size, 6, none⟩ = some (.slice a1 LA k1) := blk_c kk rfl
      have s7 : W1.cell? ⟨wr.heap.size, 7, none⟩ = some (.slice a2 LR k2) := blk_c kk rfl
      have s8 : W1.cell? ⟨wr.heap.size, 8, none⟩ = some (.slice a3 LQ k3) := blk_c kk rfl
      have s9 : W1.cell? ⟨wr.heap.size, 9, none⟩ = some (.slice a4 LJ k4) := blk_c kk rfl
      have s10 : W1.cell? ⟨wr.heap.size, 10, none⟩ = some (.int .i64 g10) := blk_c kk rfl
      have s11 : W1.cell? ⟨wr.heap.size, 11, none⟩ = some (.int .i64 g11) := blk_c kk rfl
      have s12 : W1.cell? ⟨wr.heap.size, 12, none⟩ = some (.slice a5 LN k5) := blk_c kk rfl
      have s13 : W1.cell? ⟨wr.heap.size, 13, none⟩ = some (.int .i64 g13) := blk_c kk rfl
      have s14 : W1.cell? ⟨wr.heap.size, 14, none⟩ = some (.int .i64 g14) := blk_c kk rfl
      have K0 : Hid (Calls Tryz.prog 165 #[.agg #[.int .i64 g0, .int .i64 g1, .int .i64 g2, .int .i64 g3, .int .i64 g4, .bool g5, .slice a1 LA k1, .slice a2 LR k2, .slice a3 LQ k3, .slice a4 LJ k4, .int .i64 g10, .int .i64 g11, .slice a5 LN k5, .int .i64 g13, .int .i64 g14]] W1 fun e w' => e = .returned (.bool mb) ∧ Below W1.heap.size W1 w') := KM
      have HW : Hid (W1 = wr.alloc (.cells #[.int .i64 g0, .int .i64 g1, .int .i64 g2, .int .i64 g3, .int .i64 g4, .bool g5, .slice a1 LA k1, .slice a2 LR k2, .slice a3 LQ k3, .slice a4 LJ k4, .int .i64 g10, .int .i64 g11, .slice a5 LN k5, .int .i64 g13, .int .i64 g14] 34)) := hW1
      clear hW1 bl kk KM hx hcc f0 f1
      go_upto_region 4 with fail
      rw [← unhide HW]
      clear HW y0 y1 y2 y3 y4 y5 y6 y7 y8 y9 y10 y11 y12 y13 y14
      by_cases z1 : g0 = pg
      · by_cases z2 : g1 = (i : Int)
        · have HMB : Hid (mb = true → OK) := fun hm => (unhide HOK).2 ⟨z1, z2, hm⟩
          have HMB2 : Hid (mb = false → r = false) := fun hm => unhide HBD (fun ho => by have := ((unhide HOK).1 ho).2.2; rw [hm] at this; cases this)
          clear HOK HBD
          subst z1 z2
          go_wp2_with fail
          refine (unhide K0).mono ?_
          rintro e w2 ⟨rfl, b2⟩
          have B2 := hide (And.intro (bw_tr (unhide BB).1 b2) (bw_tr (unhide BB).2 b2))
          clear b2 s0 s1 s2 s3 s4 s5 s6 s7 s8 s9 s10 s11 s12 s13 s14 K0 f0' BB
          cases mb with
          | true =>
            go_wp2_with fail
            go_roundw
            case rel => exact ⟨i + 1, by omega, by go_num, (unhide B2).1, unhide HNX (unhide HMB (by trivial))⟩
            case measure => simp only [intOf]; omega
          | false =>
            go_wp2_with fail
            go_ret
            exact ⟨by rw [unhide HMB2 (by trivial)]; rfl, (unhide B2).2⟩
        · have HR1 := hide (unhide HBD (fun ho => z2 ((unhide HOK).1 ho).2.1))
          clear HOK HBD HNX K0
          subst z1
          go_wp2_with fail
          go_ret
          exact ⟨by rw [unhide HR1]; rfl, (unhide BB).2⟩
      · have HR1 := hide (unhide HBD (fun ho => z1 ((unhide HOK).1 ho).1))
        clear HOK HBD HNX K0
        go_wp2_with fail
        go_ret
        exact ⟨by rw [unhide HR1]; rfl, (unhide BB).2⟩
    · obtain rfl : i = M := by omega
      obtain ⟨f0, f1, hcw, hT, B0⟩ := unhide HP wr (unhide HK).1
      have HR : Hid (r = decide (0 < i) ∧ Below w.heap.size w wr) := by
        refine ⟨?_, B0⟩
        obtain ⟨_, hM, hr⟩ := unhide HH
        rw [hr]
        rcases Nat.eq_zero_or_pos i with z | z
        · have : logB p = false := by
            cases hq : logB p with
            | false => rfl
            | true => exact absurd (by omega) (log_iff.1 hq).1
          rw [this]; exact (decide_eq_false (by omega)).symm
        · rw [decide_eq_true z]
          exact log_iff.2 ⟨by omega, fun k c hc => (unhide HK).2 k c (by have := (List.getElem?_eq_some_iff.1 hc).1; omega) hc⟩
      clear hcw hT B0 HK f0 HP HH
      rcases Nat.eq_zero_or_pos i with z | z
      · subst z
        go_wp2_with fail
        go_ret
        exact ⟨by rw [(unhide HR).1]; rfl, (unhide HR).2⟩
      · have z1 : (0 : Int) < (i : Int) := by omega
        have HD : Hid (decide (0 < i) = true) := decide_eq_true z
        go_wp2_with fail
        go_ret
        exact ⟨by rw [(unhide HR).1, unhide HD]; rfl, (unhide HR).2⟩
end Go.Proofs.YtnfhbmlmemifjaaGreatDoor

/- May logs be (mayBe); Check. -/
namespace Go.Proofs.YtnfhbmlmemifjaaGreatDoor
open Go.RowKit Go.Maps
set_option maxRecDepth 100000 in
set_option maxHeartbeats 8000000 in
theorem mayBeL_any {w : World} {v : Value} {l : List Lg} (h : Lgs w v l) (hT : Tab w) :
    Calls Tryz.prog 43 #[v] w fun e w' => e = .returned (.bool (chkB l)) ∧ Below w.heap.size w w' := by
  obtain ⟨a, cap, rfl⟩ := h.slice
  have hl := h.len
  obtain ⟨N, hN⟩ : ∃ N, N = l.length := ⟨_, rfl⟩
  rw [← hN] at h hl ⊢
  have hNI : (N : Int) ≤ 140737488355328 := by omega
  obtain ⟨r, hr⟩ : ∃ r, r = chkB l := ⟨_, rfl⟩
  rw [← hr]
  have HH := hide (And.intro h (And.intro hN (And.intro hr hT)))
  by_cases h16 : N ≤ 16
  · have h16I : (N : Int) ≤ 16 := by omega
    have h17 : ¬ (16 : Int) < (N : Int) := by omega
    have HE : Hid ((∀ j, j < N → okL l j) → r = true) := fun q => by rw [hr]; exact chk_iff.2 ⟨by omega, fun j hj => q j (by omega)⟩
    have HB : Hid (∀ j, j < N → ¬ okL l j → r = false) := fun j hj q => by
      rw [hr]
      cases hq : chkB l with
      | false => rfl
      | true => exact absurd ((chk_iff.1 hq).2 j (by omega)) q
    clear h hN hl hr hT
    go_enter Tryz.func43, Tryz.ntmps43
    go_wp2_with fail
    go_loopw [10] (fun iv wr => ∃ i : Nat, i ≤ N ∧ iv = .int .i64 (i : Int) ∧ Hid (Below w.heap.size w wr ∧ ∀ j, j < i → okL l j)) (fun iv _ => (N - intOf iv).toNat)
    case atStart => exact ⟨0, Nat.zero_le _, rfl, Below.refl _ _, fun j hj => absurd hj (by omega)⟩
    case round =>
      obtain ⟨i, hi, rfl, HR⟩ := hrel
      by_cases hlt : i < N
      · have hiI : (i : Int) < (N : Int) := by omega
        have h0 : (0 : Int) ≤ (i : Int) := by omega
        obtain ⟨h, hN, hr, hT⟩ := unhide HH
        obtain ⟨p, hp⟩ : ∃ p, l[i]? = some p := ⟨_, List.getElem?_eq_getElem (by omega)⟩
        obtain ⟨gb, o, rfl, cv, hcv, d0, d1⟩ := h.get hp
        obtain ⟨a2, c2, hcv2⟩ := hcv.slice
        obtain ⟨pg, hpg⟩ : ∃ z, z = p.1 := ⟨_, rfl⟩
        obtain ⟨M, hM⟩ : ∃ z, z = p.2.length := ⟨_, rfl⟩
        rw [← hM] at hcv2
        subst hcv2
        rw [← hpg] at d0
        have f0 : wr.cell? ⟨gb, o + i * 2, none⟩ = some (.int .i64 pg) := by rw [(unhide HR).1.cell (lt_of_cell d0)]; exact d0
        have f1 : wr.cell? ⟨gb, o + i * 2 + 1, none⟩ = some (.slice a2 M c2) := by rw [(unhide HR).1.cell (lt_of_cell d1)]; exact d1
        obtain ⟨W1, hW1⟩ : ∃ W1, W1 = wr.alloc (.cells #[.int .i64 pg, .slice a2 M c2] 95) := ⟨_, rfl⟩
        have bl : Below wr.heap.size wr W1 := by rw [hW1]; exact bwA _ _
        have kk : W1.heap[wr.heap.size]? = some (.cells #[.int .i64 pg, .slice a2 M c2] 95 (0, 0)) := by rw [hW1]; exact heap_alloc_new _ _
        have bD : Below W1.heap.size W1 W1.drew := (Below.refl _ _).drew
        have bAll : Below w.heap.size w W1.drew := bw_tr (bw_tr (unhide HR).1 bl) bD
        have KM := mayOne_any (p := p) (hcv.bw bAll) (hT.bw bAll)
        obtain ⟨lb, hlb⟩ : ∃ z, z = logB p := ⟨_, rfl⟩
        rw [← hlb, ← hpg] at KM
        have BB := hide (bw_tr (unhide HR).1 bl)
        have HW := hide hW1
        have HBD : Hid (lb = false → r = false) := fun q => unhide HB i hlt (fun ho => by have := (ho p hp).1; rw [← hlb, q] at this; cases this)
        have HOK : Hid (lb = true → (∀ q i'', i = i'' + 1 → l[i'']? = some q → q.1 < p.1) → ∀ j, j < i + 1 → okL l j) := fun q1 q2 j hj => by
          rcases Nat.lt_or_ge j i with d | d
          · exact (unhide HR).2 j d
          · obtain rfl : j = i := by omega
            intro p' hp'
            rw [hp] at hp'; cases hp'
            exact ⟨by rw [← hlb]; exact q1, fun q i'' e hq => q2 q i'' e hq⟩
        clear hcv bAll hM hlb
        by_cases hi0 : i = 0
        · have HNX : Hid (lb = true → ∀ j, j < i + 1 → okL l j) := fun q => unhide HOK q (fun q' i'' e => absurd e (by omega))
          have i1 : decide ((0 : Int) < (i : Int)) = false := decide_eq_false (by omega)
          have i2 : ¬ (0 : Int) < (i : Int) := by omega
          have i3 : decide (0 < i) = false := decide_eq_false (by omega)
          clear hi0 h hN hr hT hp d0 d1 hpg HOK HR HB
          have S0 : W1.cell? ⟨wr.heap.size, 0, none⟩ = some (.int .i64 pg) ∧ W1.cell? ⟨wr.heap.size, 1, none⟩ = some (.slice a2 M c2) := ⟨blk_c kk rfl, blk_c kk rfl⟩
          have S00 : W1.drew.cell? ⟨wr.heap.size, 0, none⟩ = some (.int .i64 pg) ∧ W1.drew.cell? ⟨wr.heap.size, 1, none⟩ = some (.slice a2 M c2) := S0
          have K0 : Hid (Calls Tryz.prog 187 #[.agg #[.int .i64 pg, .slice a2 M c2]] W1.drew fun e w' => e = .returned (.bool lb) ∧ Hid (Below w.heap.size w w') ∧ w'.cell? ⟨wr.heap.size, 0, none⟩ = some (.int .i64 pg) ∧ w'.cell? ⟨wr.heap.size, 1, none⟩ = some (.slice a2 M c2)) := by
            refine Calls.mono KM ?_
            rintro e w' ⟨h1, h2⟩
            have b9 := bw_tr bD h2
            have kk9 := kept_b kk (lt_of_blk kk) b9
            exact ⟨h1, bw_tr (unhide BB) b9, ⟨blk_c kk9 rfl, blk_c kk9 rfl⟩⟩
          clear hW1 bl kk KM bD
          go_upto_region 6 with fail
          rw [← unhide HW]
          clear HW f0 f1
          refine wp_region_held_drew (S := fun w' : World => w'.cell? ⟨wr.heap.size, 0, none⟩ = some (.int .i64 pg) ∧ w'.cell? ⟨wr.heap.size, 1, none⟩ = some (.slice a2 M c2)) (by kernel_rfl) S0 (fun hHeld => ?_)
          refine wpAnyH_take (i := 0) (oi := { dst := some 15, op := Op.move (Operand.tmp 3), type := 3, pos := "logs.go:16", after := #[], guard := none }) (v := ?v0n) rfl (by kernel_rfl) (by kernel_rfl) (by kernel_rfl) (fun _ _ _ h => h) (Or.inl ⟨by rfl, ?hy0n⟩) (by exact hHeld) ?_
          case hy0n => (intro w hSw; (try dsimp only at hSw); go_simp; try (with_reducible rfl))
          try simp only [Act.put, List.setIfInBounds_toArray, List.set_cons_zero, List.set_cons_succ]
          refine wpAnyH_take (i := 1) (oi := { dst := some 16, op := Op.binOp BinOp.gtr 3 (Operand.tmp 15) (Operand.const (Value.int IntKind.i64 0)) 3, type := 4, pos := "logs.go:16", after := #[{ on := 0, ground := Ground.data }], guard := none }) (v := ?v1n) rfl (by kernel_rfl) (by kernel_rfl) (by kernel_rfl) (fun _ _ _ h => h) (Or.inl ⟨by rfl, ?hy1n⟩) (by exact hHeld) ?_
          case hy1n => (intro w hSw; (try dsimp only at hSw); go_simp; try (with_reducible rfl))
          try simp only [Act.put, List.setIfInBounds_toArray, List.set_cons_zero, List.set_cons_succ]
          refine wpAnyH_take (i := 2) (oi := { dst := some 17, op := Op.move (Operand.tmp 16), type := 4, pos := "logs.go:16", after := #[{ on := 1, ground := Ground.data }], guard := none }) (v := ?v2n) rfl (by kernel_rfl) (by kernel_rfl) (by kernel_rfl) (fun _ _ _ h => h) (Or.inl ⟨by rfl, ?hy2n⟩) (by exact hHeld) ?_
          case hy2n => (intro w hSw; (try dsimp only at hSw); go_simp; try (with_reducible rfl))
          try simp only [Act.put, List.setIfInBounds_toArray, List.set_cons_zero, List.set_cons_succ]
          refine wpAnyH_take (i := 3) (oi := { dst := some 18, op := Op.move (Operand.tmp 0), type := 22, pos := "logs.go:16", after := #[{ on := 2, ground := Ground.guard }], guard := some (2, true) }) (v := undef) rfl (by kernel_rfl) (by kernel_rfl) (by kernel_rfl) (fun _ _ _ h => h) (Or.inr ⟨by rfl, rfl⟩) (by exact hHeld) ?_
          try simp only [Act.put, List.setIfInBounds_toArray, List.set_cons_zero, List.set_cons_succ]
          refine wpAnyH_take (i := 4) (oi := { dst := some 19, op := Op.move (Operand.tmp 3), type := 3, pos := "logs.go:16", after := #[{ on := 2, ground := Ground.guard }], guard := some (2, true) }) (v := undef) rfl (by kernel_rfl) (by kernel_rfl) (by kernel_rfl) (fun _ _ _ h => h) (Or.inr ⟨by rfl, rfl⟩) (by exact hHeld) ?_
          try simp only [Act.put, List.setIfInBounds_toArray, List.set_cons_zero, List.set_cons_succ]
          refine wpAnyH_take (i := 5) (oi := { dst := some 20, op := Op.binOp BinOp.sub 3 (Operand.tmp 19) (Operand.const (Value.int IntKind.i64 1)) 3, type := 3, pos := "logs.go:16", after := #[{ on := 4, ground := Ground.data }, { on := 2, ground := Ground.guard }], guard := some (2, true) }) (v := undef) rfl (by kernel_rfl) (by kernel_rfl) (by kernel_rfl) (fun _ _ _ h => h) (Or.inr ⟨by rfl, rfl⟩) (by exact hHeld) ?_
          try simp only [Act.put, List.setIfInBounds_toArray, List.set_cons_zero, List.set_cons_succ]
          refine wpAnyH_take (i := 6) (oi := { dst := some 21, op := Op.indexAddr 22 (Operand.tmp 18) (Operand.tmp 20), type := 0, pos := "logs.go:16", after := #[{ on := 3, ground := Ground.data }, { on := 5, ground := Ground.data }, { on := 2, ground := Ground.guard }], guard := some (2, true) }) (v := undef) rfl (by kernel_rfl) (by kernel_rfl) (by kernel_rfl) (fun _ _ _ h => h) (Or.inr ⟨by rfl, rfl⟩) (by exact hHeld) ?_
          try simp only [Act.put, List.setIfInBounds_toArray, List.set_cons_zero, List.set_cons_succ]
          refine wpAnyH_take (i := 7) (oi := { dst := some 22, op := Op.fieldAddr 95 (Operand.tmp 21) 0, type := 0, pos := "logs.go:16", after := #[{ on := 6, ground := Ground.data }, { on := 2, ground := Ground.guard }], guard := some (2, true) }) (v := undef) rfl (by kernel_rfl) (by kernel_rfl) (by kernel_rfl) (fun _ _ _ h => h) (Or.inr ⟨by rfl, rfl⟩) (by exact hHeld) ?_
          try simp only [Act.put, List.setIfInBounds_toArray, List.set_cons_zero, List.set_cons_succ]
          refine wpAnyH_take (i := 8) (oi := { dst := some 23, op := Op.load 3 (Operand.tmp 22), type := 3, pos := "logs.go:16", after := #[{ on := 7, ground := Ground.data }, { on := 2, ground := Ground.guard }], guard := some (2, true) }) (v := undef) rfl (by kernel_rfl) (by kernel_rfl) (by kernel_rfl) (fun _ _ _ h => h) (Or.inr ⟨by rfl, rfl⟩) (by exact hHeld) ?_
          try simp only [Act.put, List.setIfInBounds_toArray, List.set_cons_zero, List.set_cons_succ]
          refine wpAnyH_take (i := 9) (oi := { dst := some 24, op := Op.fieldAddr 95 (Operand.tmp 4) 0, type := 0, pos := "logs.go:16", after := #[{ on := 2, ground := Ground.guard }], guard := some (2, true) }) (v := undef) rfl (by kernel_rfl) (by kernel_rfl) (by kernel_rfl) (fun _ _ _ h => h) (Or.inr ⟨by rfl, rfl⟩) (by exact hHeld) ?_
          try simp only [Act.put, List.setIfInBounds_toArray, List.set_cons_zero, List.set_cons_succ]
          refine wpAnyH_take (i := 10) (oi := { dst := some 25, op := Op.load 3 (Operand.tmp 24), type := 3, pos := "logs.go:16", after := #[{ on := 9, ground := Ground.data }, { on := 2, ground := Ground.guard }], guard := some (2, true) }) (v := undef) rfl (by kernel_rfl) (by kernel_rfl) (by kernel_rfl) (fun _ _ _ h => h) (Or.inr ⟨by rfl, rfl⟩) (by exact hHeld) ?_
          try simp only [Act.put, List.setIfInBounds_toArray, List.set_cons_zero, List.set_cons_succ]
          refine wpAnyH_take (i := 11) (oi := { dst := some 26, op := Op.binOp BinOp.geq 3 (Operand.tmp 23) (Operand.tmp 25) 3, type := 4, pos := "logs.go:16", after := #[{ on := 8, ground := Ground.data }, { on := 10, ground := Ground.data }, { on := 2, ground := Ground.guard }], guard := some (2, true) }) (v := undef) rfl (by kernel_rfl) (by kernel_rfl) (by kernel_rfl) (fun _ _ _ h => h) (Or.inr ⟨by rfl, rfl⟩) (by exact hHeld) ?_
          try simp only [Act.put, List.setIfInBounds_toArray, List.set_cons_zero, List.set_cons_succ]
          refine wpAnyH_take (i := 12) (oi := { dst := some 27, op := Op.pick (Operand.tmp 17) (Operand.tmp 26) (Operand.const (Value.bool false)), type := 4, pos := "logs.go:16", after := #[{ on := 2, ground := Ground.data }, { on := 11, ground := Ground.data }], guard := none }) (v := ?v12n) rfl (by kernel_rfl) (by kernel_rfl) (by kernel_rfl) (fun _ _ _ h => h) (Or.inl ⟨by rfl, ?hy12n⟩) (by exact hHeld) ?_
          case hy12n => (intro w hSw; (try dsimp only at hSw); go_simp; try (with_reducible rfl))
          try simp only [Act.put, List.setIfInBounds_toArray, List.set_cons_zero, List.set_cons_succ]
          refine wpAnyH_take (i := 13) (oi := { dst := some 28, op := Op.move (Operand.tmp 27), type := 4, pos := "logs.go:16", after := #[{ on := 12, ground := Ground.data }, { on := 2, ground := Ground.chain }], guard := none }) (v := ?v13n) rfl (by kernel_rfl) (by kernel_rfl) (by kernel_rfl) (fun _ _ _ h => h) (Or.inl ⟨by rfl, ?hy13n⟩) (by exact hHeld) ?_
          case hy13n => (intro w hSw; (try dsimp only at hSw); go_simp; try (with_reducible rfl))
          try simp only [Act.put, List.setIfInBounds_toArray, List.set_cons_zero, List.set_cons_succ]
          refine wpAnyH_take (i := 14) (oi := { dst := some 29, op := Op.load 95 (Operand.tmp 4), type := 95, pos := "logs.go:16", after := #[{ on := 13, ground := Ground.guard }], guard := some (13, false) }) (v := ?v14n) rfl (by kernel_rfl) (by kernel_rfl) (by kernel_rfl) (fun _ _ _ h => h) (Or.inl ⟨by rfl, ?hy14n⟩) (by exact hHeld) ?_
          case hy14n => (intro w hSw; (try dsimp only at hSw); go_simp; try (with_reducible rfl))
          try simp only [Act.put, List.setIfInBounds_toArray, List.set_cons_zero, List.set_cons_succ]
          refine wpAnyH_ready (rs := [15]) (by kernel_rfl) (by simp) ?_
          refine AllReadyH.cons (o := { dst := some 30, op := Op.call { callee := Callee.value (Operand.func 187), args := #[Operand.tmp 29], argTypes := #[95] }, type := 4, pos := "logs.go:16", after := #[{ on := 14, ground := Ground.data }, { on := 13, ground := Ground.chain }, { on := 13, ground := Ground.guard }], guard := some (13, false) }) rfl (fun K hK => ?_) AllReadyH.nil
          go_simp
          go_at_call 187
          refine (unhide K0).mono ?_
          rintro e z1 ⟨rfl, B1, S1⟩
          go_wp2_with fail
          refine hK.out _ _ S1 (fun _ => ?_)
          clear hK K
          try simp only [Act.put, List.setIfInBounds_toArray, List.set_cons_zero, List.set_cons_succ]
          refine wpAnyH_take (i := 16) (oi := { dst := some 31, op := Op.unOp UnOp.not 4 (Operand.tmp 30), type := 4, pos := "logs.go:16", after := #[{ on := 15, ground := Ground.data }, { on := 13, ground := Ground.guard }], guard := some (13, false) }) (v := ?v16n) rfl (by kernel_rfl) (by kernel_rfl) (by kernel_rfl) (fun _ _ _ h => h) (Or.inl ⟨by rfl, ?hy16n⟩) (by exact S1) ?_
          case hy16n => (intro w hSw; (try dsimp only at hSw); go_simp; try (with_reducible rfl))
          try simp only [Act.put, List.setIfInBounds_toArray, List.set_cons_zero, List.set_cons_succ]
          refine wpAnyH_take (i := 17) (oi := { dst := some 32, op := Op.pick (Operand.tmp 28) (Operand.const (Value.bool true)) (Operand.tmp 31), type := 4, pos := "logs.go:16", after := #[{ on := 13, ground := Ground.data }, { on := 16, ground := Ground.data }], guard := none }) (v := ?v17n) rfl (by kernel_rfl) (by kernel_rfl) (by kernel_rfl) (fun _ _ _ h => h) (Or.inl ⟨by rfl, ?hy17n⟩) (by exact S1) ?_
          case hy17n => (intro w hSw; (try dsimp only at hSw); go_simp; try (with_reducible rfl))
          try simp only [Act.put, List.setIfInBounds_toArray, List.set_cons_zero, List.set_cons_succ]
          refine wpAnyH_done (by kernel_rfl) ?_ _
          clear S0 S00 S1 K0
          cases lb with
            | true =>
              go_wp2_with fail
              go_roundw
              case rel => exact ⟨i + 1, by omega, by go_num, unhide B1, unhide HNX (by trivial)⟩
              case measure => simp only [intOf]; omega
            | false =>
              go_wp2_with fail
              go_ret
              exact ⟨by rw [unhide HBD (by trivial)]; rfl, unhide B1⟩
        · obtain ⟨q, hq⟩ : ∃ q, l[i - 1]? = some q := ⟨_, List.getElem?_eq_getElem (by omega)⟩
          obtain ⟨gb', o', e', cv', hcv', d0', d1'⟩ := h.get hq
          cases e'
          obtain ⟨qg, hqg⟩ : ∃ z, z = q.1 := ⟨_, rfl⟩
          rw [← hqg] at d0'
          obtain ⟨i', hi'⟩ : ∃ z, z = i - 1 := ⟨_, rfl⟩
          rw [← hi'] at d0' hq
          have f2 : wr.cell? ⟨gb, o + i' * 2, none⟩ = some (.int .i64 qg) := by rw [(unhide HR).1.cell (lt_of_cell d0')]; exact d0'
          have f2' : W1.cell? ⟨gb, o + i' * 2, none⟩ = some (.int .i64 qg) := by rw [bl.cell (lt_of_cell f2)]; exact f2
          have v1 : (i : Int) - 1 = (i' : Int) := by omega
          have hw2 : IntKind.i64.wrap (i' : Int) = (i' : Int) := by rw [IntKind.wrap_i64]; omega
          have v2 : (i' : Int) < (N : Int) := by omega
          have v3 : (0 : Int) ≤ (i' : Int) := by omega
          have v4 : (0 : Int) < (i : Int) := by omega
          have v7 : decide (0 < i) = true := decide_eq_true (by omega)
          have v8 : 0 < i := by omega
          by_cases hqp : qg < pg
          · have HNX : Hid (lb = true → ∀ j, j < i + 1 → okL l j) := fun z => unhide HOK z (fun q' i'' e hq' => by
              obtain rfl : i'' = i' := by omega
              rw [hq] at hq'; cases hq'
              rw [← hqg, ← hpg]; exact hqp)
            have v5 : ¬ pg ≤ qg := by omega
            have v6 : decide (pg ≤ qg) = false := decide_eq_false v5
            clear h hN hr hT hp d0 d1 hpg d0' d1' hcv' hq hqg hi' hi0 HOK HR HB hqp
            have S0 : W1.cell? ⟨wr.heap.size, 0, none⟩ = some (.int .i64 pg) ∧ W1.cell? ⟨wr.heap.size, 1, none⟩ = some (.slice a2 M c2) ∧ W1.cell? ⟨gb, o + i' * 2, none⟩ = some (.int .i64 qg) := ⟨blk_c kk rfl, blk_c kk rfl, f2'⟩
            have S00 : W1.drew.cell? ⟨wr.heap.size, 0, none⟩ = some (.int .i64 pg) ∧ W1.drew.cell? ⟨wr.heap.size, 1, none⟩ = some (.slice a2 M c2) ∧ W1.drew.cell? ⟨gb, o + i' * 2, none⟩ = some (.int .i64 qg) := S0
            have K0 : Hid (Calls Tryz.prog 187 #[.agg #[.int .i64 pg, .slice a2 M c2]] W1.drew fun e w' => e = .returned (.bool lb) ∧ Hid (Below w.heap.size w w') ∧ w'.cell? ⟨wr.heap.size, 0, none⟩ = some (.int .i64 pg) ∧ w'.cell? ⟨wr.heap.size, 1, none⟩ = some (.slice a2 M c2) ∧ w'.cell? ⟨gb, o + i' * 2, none⟩ = some (.int .i64 qg)) := by
              refine Calls.mono KM ?_
              rintro e w' ⟨h1, h2⟩
              have b9 := bw_tr bD h2
              have kk9 := kept_b kk (lt_of_blk kk) b9
              exact ⟨h1, bw_tr (unhide BB) b9, ⟨blk_c kk9 rfl, blk_c kk9 rfl, by rw [b9.cell (lt_of_cell f2')]; exact f2'⟩⟩
            clear hW1 bl kk KM bD f2'
            go_upto_region 6 with fail
            rw [← unhide HW]
            clear HW f0 f1 f2
            refine wp_region_held_drew (S := fun w' : World => w'.cell? ⟨wr.heap.size, 0, none⟩ = some (.int .i64 pg) ∧ w'.cell? ⟨wr.heap.size, 1, none⟩ = some (.slice a2 M c2) ∧ w'.cell? ⟨gb, o + i' * 2, none⟩ = some (.int .i64 qg)) (by kernel_rfl) S0 (fun hHeld => ?_)
            refine wpAnyH_take (i := 0) (oi := { dst := some 15, op := Op.move (Operand.tmp 3), type := 3, pos := "logs.go:16", after := #[], guard := none }) (v := ?v0p) rfl (by kernel_rfl) (by kernel_rfl) (by kernel_rfl) (fun _ _ _ h => h) (Or.inl ⟨by rfl, ?hy0p⟩) (by exact hHeld) ?_
            case hy0p => (intro w hSw; (try dsimp only at hSw); go_simp; try (with_reducible rfl))
            try simp only [Act.put, List.setIfInBounds_toArray, List.set_cons_zero, List.set_cons_succ]
            refine wpAnyH_take (i := 1) (oi := { dst := some 16, op := Op.binOp BinOp.gtr 3 (Operand.tmp 15) (Operand.const (Value.int IntKind.i64 0)) 3, type := 4, pos := "logs.go:16", after := #[{ on := 0, ground := Ground.data }], guard := none }) (v := ?v1p) rfl (by kernel_rfl) (by kernel_rfl) (by kernel_rfl) (fun _ _ _ h => h) (Or.inl ⟨by rfl, ?hy1p⟩) (by exact hHeld) ?_
            case hy1p => (intro w hSw; (try dsimp only at hSw); go_simp; try (with_reducible rfl))
            try simp only [Act.put, List.setIfInBounds_toArray, List.set_cons_zero, List.set_cons_succ]
            refine wpAnyH_take (i := 2) (oi := { dst := some 17, op := Op.move (Operand.tmp 16), type := 4, pos := "logs.go:16", after := #[{ on := 1, ground := Ground.data }], guard := none }) (v := ?v2p) rfl (by kernel_rfl) (by kernel_rfl) (by kernel_rfl) (fun _ _ _ h => h) (Or.inl ⟨by rfl, ?hy2p⟩) (by exact hHeld) ?_
            case hy2p => (intro w hSw; (try dsimp only at hSw); go_simp; try (with_reducible rfl))
            try simp only [Act.put, List.setIfInBounds_toArray, List.set_cons_zero, List.set_cons_succ]
            refine wpAnyH_take (i := 3) (oi := { dst := some 18, op := Op.move (Operand.tmp 0), type := 22, pos := "logs.go:16", after := #[{ on := 2, ground := Ground.guard }], guard := some (2, true) }) (v := ?v3p) rfl (by kernel_rfl) (by kernel_rfl) (by kernel_rfl) (fun _ _ _ h => h) (Or.inl ⟨by rfl, ?hy3p⟩) (by exact hHeld) ?_
            case hy3p => (intro w hSw; (try dsimp only at hSw); go_simp; try (with_reducible rfl))
            try simp only [Act.put, List.setIfInBounds_toArray, List.set_cons_zero, List.set_cons_succ]
            refine wpAnyH_take (i := 4) (oi := { dst := some 19, op := Op.move (Operand.tmp 3), type := 3, pos := "logs.go:16", after := #[{ on := 2, ground := Ground.guard }], guard := some (2, true) }) (v := ?v4p) rfl (by kernel_rfl) (by kernel_rfl) (by kernel_rfl) (fun _ _ _ h => h) (Or.inl ⟨by rfl, ?hy4p⟩) (by exact hHeld) ?_
            case hy4p => (intro w hSw; (try dsimp only at hSw); go_simp; try (with_reducible rfl))
            try simp only [Act.put, List.setIfInBounds_toArray, List.set_cons_zero, List.set_cons_succ]
            refine wpAnyH_take (i := 5) (oi := { dst := some 20, op := Op.binOp BinOp.sub 3 (Operand.tmp 19) (Operand.const (Value.int IntKind.i64 1)) 3, type := 3, pos := "logs.go:16", after := #[{ on := 4, ground := Ground.data }, { on := 2, ground := Ground.guard }], guard := some (2, true) }) (v := ?v5p) rfl (by kernel_rfl) (by kernel_rfl) (by kernel_rfl) (fun _ _ _ h => h) (Or.inl ⟨by rfl, ?hy5p⟩) (by exact hHeld) ?_
            case hy5p => (intro w hSw; (try dsimp only at hSw); go_simp; try (with_reducible rfl))
            try simp only [Act.put, List.setIfInBounds_toArray, List.set_cons_zero, List.set_cons_succ]
            refine wpAnyH_take (i := 6) (oi := { dst := some 21, op := Op.indexAddr 22 (Operand.tmp 18) (Operand.tmp 20), type := 0, pos := "logs.go:16", after := #[{ on := 3, ground := Ground.data }, { on := 5, ground := Ground.data }, { on := 2, ground := Ground.guard }], guard := some (2, true) }) (v := ?v6p) rfl (by kernel_rfl) (by kernel_rfl) (by kernel_rfl) (fun _ _ _ h => h) (Or.inl ⟨by rfl, ?hy6p⟩) (by exact hHeld) ?_
            case hy6p => (intro w hSw; (try dsimp only at hSw); go_simp; try (with_reducible rfl))
            try simp only [Act.put, List.setIfInBounds_toArray, List.set_cons_zero, List.set_cons_succ]
            refine wpAnyH_take (i := 7) (oi := { dst := some 22, op := Op.fieldAddr 95 (Operand.tmp 21) 0, type := 0, pos := "logs.go:16", after := #[{ on := 6, ground := Ground.data }, { on := 2, ground := Ground.guard }], guard := some (2, true) }) (v := ?v7p) rfl (by kernel_rfl) (by kernel_rfl) (by kernel_rfl) (fun _ _ _ h => h) (Or.inl ⟨by rfl, ?hy7p⟩) (by exact hHeld) ?_
            case hy7p => (intro w hSw; (try dsimp only at hSw); go_simp; try (with_reducible rfl))
            try simp only [Act.put, List.setIfInBounds_toArray, List.set_cons_zero, List.set_cons_succ]
            refine wpAnyH_take (i := 8) (oi := { dst := some 23, op := Op.load 3 (Operand.tmp 22), type := 3, pos := "logs.go:16", after := #[{ on := 7, ground := Ground.data }, { on := 2, ground := Ground.guard }], guard := some (2, true) }) (v := ?v8p) rfl (by kernel_rfl) (by kernel_rfl) (by kernel_rfl) (fun _ _ _ h => h) (Or.inl ⟨by rfl, ?hy8p⟩) (by exact hHeld) ?_
            case hy8p => (intro w hSw; (try dsimp only at hSw); go_simp; try (with_reducible rfl))
            try simp only [Act.put, List.setIfInBounds_toArray, List.set_cons_zero, List.set_cons_succ]
            refine wpAnyH_take (i := 9) (oi := { dst := some 24, op := Op.fieldAddr 95 (Operand.tmp 4) 0, type := 0, pos := "logs.go:16", after := #[{ on := 2, ground := Ground.guard }], guard := some (2, true) }) (v := ?v9p) rfl (by kernel_rfl) (by kernel_rfl) (by kernel_rfl) (fun _ _ _ h => h) (Or.inl ⟨by rfl, ?hy9p⟩) (by exact hHeld) ?_
            case hy9p => (intro w hSw; (try dsimp only at hSw); go_simp; try (with_reducible rfl))
            try simp only [Act.put, List.setIfInBounds_toArray, List.set_cons_zero, List.set_cons_succ]
            refine wpAnyH_take (i := 10) (oi := { dst := some 25, op := Op.load 3 (Operand.tmp 24), type := 3, pos := "logs.go:16", after := #[{ on := 9, ground := Ground.data }, { on := 2, ground := Ground.guard }], guard := some (2, true) }) (v := ?v10p) rfl (by kernel_rfl) (by kernel_rfl) (by kernel_rfl) (fun _ _ _ h => h) (Or.inl ⟨by rfl, ?hy10p⟩) (by exact hHeld) ?_
            case hy10p => (intro w hSw; (try dsimp only at hSw); go_simp; try (with_reducible rfl))
            try simp only [Act.put, List.setIfInBounds_toArray, List.set_cons_zero, List.set_cons_succ]
            refine wpAnyH_take (i := 11) (oi := { dst := some 26, op := Op.binOp BinOp.geq 3 (Operand.tmp 23) (Operand.tmp 25) 3, type := 4, pos := "logs.go:16", after := #[{ on := 8, ground := Ground.data }, { on := 10, ground := Ground.data }, { on := 2, ground := Ground.guard }], guard := some (2, true) }) (v := ?v11p) rfl (by kernel_rfl) (by kernel_rfl) (by kernel_rfl) (fun _ _ _ h => h) (Or.inl ⟨by rfl, ?hy11p⟩) (by exact hHeld) ?_
            case hy11p => (intro w hSw; (try dsimp only at hSw); go_simp; try (with_reducible rfl))
            try simp only [Act.put, List.setIfInBounds_toArray, List.set_cons_zero, List.set_cons_succ]
            refine wpAnyH_take (i := 12) (oi := { dst := some 27, op := Op.pick (Operand.tmp 17) (Operand.tmp 26) (Operand.const (Value.bool false)), type := 4, pos := "logs.go:16", after := #[{ on := 2, ground := Ground.data }, { on := 11, ground := Ground.data }], guard := none }) (v := ?v12p) rfl (by kernel_rfl) (by kernel_rfl) (by kernel_rfl) (fun _ _ _ h => h) (Or.inl ⟨by rfl, ?hy12p⟩) (by exact hHeld) ?_
            case hy12p => (intro w hSw; (try dsimp only at hSw); go_simp; try (with_reducible rfl))
            try simp only [Act.put, List.setIfInBounds_toArray, List.set_cons_zero, List.set_cons_succ]
            refine wpAnyH_take (i := 13) (oi := { dst := some 28, op := Op.move (Operand.tmp 27), type := 4, pos := "logs.go:16", after := #[{ on := 12, ground := Ground.data }, { on := 2, ground := Ground.chain }], guard := none }) (v := ?v13p) rfl (by kernel_rfl) (by kernel_rfl) (by kernel_rfl) (fun _ _ _ h => h) (Or.inl ⟨by rfl, ?hy13p⟩) (by exact hHeld) ?_
            case hy13p => (intro w hSw; (try dsimp only at hSw); go_simp; try (with_reducible rfl))
            try simp only [Act.put, List.setIfInBounds_toArray, List.set_cons_zero, List.set_cons_succ]
            refine wpAnyH_take (i := 14) (oi := { dst := some 29, op := Op.load 95 (Operand.tmp 4), type := 95, pos := "logs.go:16", after := #[{ on := 13, ground := Ground.guard }], guard := some (13, false) }) (v := ?v14p) rfl (by kernel_rfl) (by kernel_rfl) (by kernel_rfl) (fun _ _ _ h => h) (Or.inl ⟨by rfl, ?hy14p⟩) (by exact hHeld) ?_
            case hy14p => (intro w hSw; (try dsimp only at hSw); go_simp; try (with_reducible rfl))
            try simp only [Act.put, List.setIfInBounds_toArray, List.set_cons_zero, List.set_cons_succ]
            refine wpAnyH_ready (rs := [15]) (by kernel_rfl) (by simp) ?_
            refine AllReadyH.cons (o := { dst := some 30, op := Op.call { callee := Callee.value (Operand.func 187), args := #[Operand.tmp 29], argTypes := #[95] }, type := 4, pos := "logs.go:16", after := #[{ on := 14, ground := Ground.data }, { on := 13, ground := Ground.chain }, { on := 13, ground := Ground.guard }], guard := some (13, false) }) rfl (fun K hK => ?_) AllReadyH.nil
            go_simp
            go_at_call 187
            refine (unhide K0).mono ?_
            rintro e z1 ⟨rfl, B1, S1⟩
            go_wp2_with fail
            refine hK.out _ _ S1 (fun _ => ?_)
            clear hK K
            try simp only [Act.put, List.setIfInBounds_toArray, List.set_cons_zero, List.set_cons_succ]
            refine wpAnyH_take (i := 16) (oi := { dst := some 31, op := Op.unOp UnOp.not 4 (Operand.tmp 30), type := 4, pos := "logs.go:16", after := #[{ on := 15, ground := Ground.data }, { on := 13, ground := Ground.guard }], guard := some (13, false) }) (v := ?v16p) rfl (by kernel_rfl) (by kernel_rfl) (by kernel_rfl) (fun _ _ _ h => h) (Or.inl ⟨by rfl, ?hy16p⟩) (by exact S1) ?_
            case hy16p => (intro w hSw; (try dsimp only at hSw); go_simp; try (with_reducible rfl))
            try simp only [Act.put, List.setIfInBounds_toArray, List.set_cons_zero, List.set_cons_succ]
            refine wpAnyH_take (i := 17) (oi := { dst := some 32, op := Op.pick (Operand.tmp 28) (Operand.const (Value.bool true)) (Operand.tmp 31), type := 4, pos := "logs.go:16", after := #[{ on := 13, ground := Ground.data }, { on := 16, ground := Ground.data }], guard := none }) (v := ?v17p) rfl (by kernel_rfl) (by kernel_rfl) (by kernel_rfl) (fun _ _ _ h => h) (Or.inl ⟨by rfl, ?hy17p⟩) (by exact S1) ?_
            case hy17p => (intro w hSw; (try dsimp only at hSw); go_simp; try (with_reducible rfl))
            try simp only [Act.put, List.setIfInBounds_toArray, List.set_cons_zero, List.set_cons_succ]
            refine wpAnyH_done (by kernel_rfl) ?_ _
            clear S0 S00 S1 K0
            cases lb with
              | true =>
                go_wp2_with fail
                go_roundw
                case rel => exact ⟨i + 1, by omega, by go_num, unhide B1, unhide HNX (by trivial)⟩
                case measure => simp only [intOf]; omega
              | false =>
                go_wp2_with fail
                go_ret
                exact ⟨by rw [unhide HBD (by trivial)]; rfl, unhide B1⟩
          · have HR1 : Hid (r = false) := unhide HB i hlt (fun ho => by
              have := (ho p hp).2 q i' (by omega) hq
              rw [← hqg, ← hpg] at this
              exact hqp this)
            have v5 : pg ≤ qg := by omega
            have v6 : decide (pg ≤ qg) = true := decide_eq_true v5
            have s0 : W1.cell? ⟨wr.heap.size, 0, none⟩ = some (.int .i64 pg) := blk_c kk rfl
            have s1 : W1.cell? ⟨wr.heap.size, 1, none⟩ = some (.slice a2 M c2) := blk_c kk rfl
            clear h hN hr hT hp d0 d1 hpg d0' d1' hcv' hq hqg hi' hi0 HOK HR HB hqp KM bD hW1 bl kk HBD
            go_upto_region 6 with fail
            rw [← unhide HW]
            clear HW f0 f1 f2
            go_quiet (fail)
            go_wp2_with fail
            go_ret
            exact ⟨by rw [unhide HR1]; rfl, below_drewN (unhide BB) _⟩
      · obtain rfl : i = N := by omega
        have HR1 := hide (unhide HE (unhide HR).2)
        have BB := hide (unhide HR).1
        clear HE HB HR HH
        go_wp2_with fail
        go_ret
        exact ⟨by rw [unhide HR1]; rfl, unhide BB⟩
  · have h17 : (16 : Int) < (N : Int) := by omega
    have HR : Hid (r = false) := by
      unfold Hid
      rw [hr]
      cases hq : chkB l with
      | false => rfl
      | true => exact absurd (chk_iff.1 hq).1 (by omega)
    clear h hN hl hr hT HH h16
    go_enter Tryz.func43, Tryz.ntmps43
    go_wp2_with fail
    go_ret
    exact ⟨by rw [unhide HR]; rfl, Below.refl _ _⟩
set_option maxHeartbeats 1000000 in
theorem lgCheck_any {w : World} {v : Value} {l : List Lg} (h : Lgs w v l) (hT : Tab w) :
    Calls Tryz.prog 14 #[v] w fun e w' => e = .returned (.int .i64 (if chkB l = true then 0 else 1)) ∧ Below w.heap.size w w' := by
  have K := mayBeL_any h hT
  obtain ⟨a, cap, rfl⟩ := h.slice
  generalize chkB l = r at *
  clear h hT
  go_enter Tryz.func14, Tryz.ntmps14
  go_wp2_with fail
  refine K.mono ?_
  rintro e w1 ⟨rfl, b1⟩
  cases r
  · go_wp2
    go_ret
    exact ⟨rfl, b1⟩
  · go_wp2
    go_ret
    exact ⟨rfl, b1⟩
end Go.Proofs.YtnfhbmlmemifjaaGreatDoor

/- Where the log of a group stands (sort.Search with its closure; find, commits); Len. -/
namespace Go.Proofs.YtnfhbmlmemifjaaGreatDoor
open Go.RowKit Go.Maps
set_option maxRecDepth 100000 in
set_option maxHeartbeats 4000000 in
theorem find1_any {w : World} {bl bg gb o N cap i : Nat} {g pg : Int} (hi : i < N) (hN : N ≤ 1073741824) (c1 : w.cell? ⟨bl, 0, none⟩ = some (.slice (some ⟨gb, o, none⟩) N cap)) (c2 : w.cell? ⟨bg, 0, none⟩ = some (.int .i64 g)) (c3 : w.cell? ⟨gb, o + i * 2, none⟩ = some (.int .i64 pg)) :
    Calls Tryz.prog 263 #[.int .i64 (i : Int), .pointer (some ⟨bl, 0, none⟩), .pointer (some ⟨bg, 0, none⟩)] w fun e w' => e = .returned (.bool (decide (g ≤ pg))) ∧ ∃ q, w' = w.drewN q := by
  have hiI : (i : Int) < (N : Int) := by omega
  have h0 : (0 : Int) ≤ (i : Int) := by omega
  have hNI : (N : Int) ≤ 1073741824 := by omega
  clear hi hN
  go_enter Tryz.func263, Tryz.ntmps263
  go_wp2_with fail
  go_quiet (fail)
  go_wp2_with fail
  go_ret
  exact ⟨rfl, _, rfl⟩
set_option maxRecDepth 100000 in
set_option maxHeartbeats 4000000 in
theorem search_any {w : World} {n bl bg : Nat} {p : Nat → Bool} (hn : n ≤ 1073741824)
    (hf : ∀ (m i : Nat), i < n → Calls Tryz.prog 263 #[.int .i64 (i : Int), .pointer (some ⟨bl, 0, none⟩), .pointer (some ⟨bg, 0, none⟩)] (w.drewN m) fun e w' => e = .returned (.bool (p i)) ∧ ∃ q, w' = (w.drewN m).drewN q)
    (hm : ∀ a b, a ≤ b → b < n → p a = true → p b = true) :
    Calls Tryz.prog 262 #[.int .i64 (n : Int), .func (.func 263) #[] #[.pointer (some ⟨bl, 0, none⟩), .pointer (some ⟨bg, 0, none⟩)]] w fun e w' => ∃ k : Nat, e = .returned (.int .i64 (k : Int)) ∧ k ≤ n ∧ (∀ j, j < k → p j = false) ∧ (∀ j, k ≤ j → j < n → p j = true) ∧ ∃ q, w' = w.drewN q := by
  have HF := hide hf
  have HM := hide hm
  have hnI : (n : Int) ≤ 1073741824 := by omega
  clear hf hm
  go_enter Tryz.func262, Tryz.ntmps262
  go_wp2_with fail
  go_loopw [5, 6] (fun s5 s6 wr => ∃ (lo hi q : Nat), s5 = .int .i64 (lo : Int) ∧ s6 = .int .i64 (hi : Int) ∧ lo ≤ hi ∧ hi ≤ n ∧ wr = w.drewN q ∧ Hid ((∀ t, t < lo → p t = false) ∧ (∀ t, hi ≤ t → t < n → p t = true))) (fun s5 s6 _ => (intOf s6 - intOf s5).toNat)
  case atStart => exact ⟨0, n, 0, rfl, rfl, Nat.zero_le _, Nat.le_refl _, rfl, fun t ht => absurd ht (by omega), fun t h1 h2 => by omega⟩
  case round =>
    obtain ⟨lo, hi, q, rfl, rfl, hlh, hin, hw, HI⟩ := hrel
    subst hw
    have hiI : (hi : Int) ≤ 1073741824 := by omega
    have hlI : (lo : Int) ≤ (hi : Int) := by omega
    by_cases hlt : lo < hi
    · have hltI : (lo : Int) < (hi : Int) := by omega
      have hc := unhide HF q ((lo + hi) / 2) (by omega)
      rw [show (((lo + hi) / 2 : Nat) : Int) = ((lo : Int) + (hi : Int)) / 2 by omega] at hc
      obtain ⟨pb, hpb⟩ : ∃ b, b = p ((lo + hi) / 2) := ⟨_, rfl⟩
      rw [← hpb] at hc
      have HP := hide hpb
      have KC := hide hc
      clear hpb hc
      cases pb with
      | false =>
        have I2 : Hid ((∀ t, t < (lo + hi) / 2 + 1 → p t = false) ∧ (∀ t, hi ≤ t → t < n → p t = true)) := ⟨fun t ht => (by
          cases h : p t with
          | false => rfl
          | true => have := unhide HM t ((lo + hi) / 2) (by omega) (by omega) h; rw [← unhide HP] at this; cases this), (unhide HI).2⟩
        clear HP HI
        go_wp2_with fail
        refine (unhide KC).mono ?_
        rintro e w' ⟨rfl, q2, rfl⟩
        go_wp2_with fail
        go_roundw
        case rel => exact ⟨(lo + hi) / 2 + 1, hi, q + q2, by rw [show ((lo : Int) + (hi : Int)) / 2 + 1 = (((lo + hi) / 2 + 1 : Nat) : Int) by omega], rfl, by omega, hin, rfl, I2⟩
        case measure => simp only [intOf]; omega
      | true =>
        have I2 : Hid ((∀ t, t < lo → p t = false) ∧ (∀ t, (lo + hi) / 2 ≤ t → t < n → p t = true)) := ⟨(unhide HI).1, fun t ht htn => unhide HM ((lo + hi) / 2) t ht htn (unhide HP).symm⟩
        clear HP HI
        go_wp2_with fail
        refine (unhide KC).mono ?_
        rintro e w' ⟨rfl, q2, rfl⟩
        go_wp2_with fail
        go_roundw
        case rel => exact ⟨lo, (lo + hi) / 2, q + q2, rfl, by rw [show ((lo : Int) + (hi : Int)) / 2 = (((lo + hi) / 2 : Nat) : Int) by omega], by omega, by omega, rfl, I2⟩
        case measure => simp only [intOf]; omega
    · obtain rfl : hi = lo := by omega
      go_wp2_with fail
      go_ret
      exact ⟨hi, rfl, hin, (unhide HI).1, (unhide HI).2, q, rfl⟩
structure AtG (l : List Lg) (g : Int) (k : Nat) : Prop where
  le : k ≤ l.length
  lo : ∀ (j : Nat) (p : Lg), j < k → l[j]? = some p → p.1 < g
  hi : ∀ (j : Nat) (p : Lg), k ≤ j → l[j]? = some p → g ≤ p.1
theorem ris_mono {l : List Lg} (h : risB l = true) : ∀ (a b : Nat) (p q : Lg), a < b → l[a]? = some p → l[b]? = some q → p.1 < q.1 := by
  have hs := (ris_iff l).1 h
  intro a b p q hab hp hq
  induction b generalizing q with
  | zero => omega
  | succ b ih =>
    have hb : b < l.length := by have := (List.getElem?_eq_some_iff.1 hq).1; omega
    have hbq := hs b l[b] q (List.getElem?_eq_getElem hb) hq
    rcases Nat.lt_or_ge a b with c | c
    · have := ih l[b] c (List.getElem?_eq_getElem hb); omega
    · obtain rfl : a = b := by omega
      rw [List.getElem?_eq_getElem hb] at hp; cases hp; exact hbq
theorem AtG.found {l : List Lg} {g : Int} {k : Nat} (_h : AtG l g k) (hr : risB l = true) {p : Lg} (hp : l[k]? = some p) (e : p.1 = g) : fndL l g = some p.2 := by
  rw [← e]; exact fndL_of hr (List.mem_of_getElem? hp)
theorem AtG.none {l : List Lg} {g : Int} {k : Nat} (h : AtG l g k) (hr : risB l = true) (hn : ∀ p, l[k]? = some p → p.1 ≠ g) : fndL l g = none := by
  unfold fndL
  rw [List.find?_eq_none.2 (fun x hx => ?_)]
  · rfl
  · obtain ⟨j, hj⟩ := List.getElem?_of_mem hx
    simp only [decide_eq_true_eq]
    intro e
    rcases Nat.lt_trichotomy j k with c | c | c
    · have := h.lo j x c hj; omega
    · subst c; exact hn x hj e
    · have hk : k < l.length := by have := (List.getElem?_eq_some_iff.1 hj).1; omega
      have h1 := h.hi k l[k] (Nat.le_refl _) (List.getElem?_eq_getElem hk)
      have h2 := ris_mono hr k j l[k] x c (List.getElem?_eq_getElem hk) hj
      omega
def FnP (w : World) (l : List Lg) (g : Int) (k : Nat) (cv : Value) : Prop :=
  AtG l g k ∧ ((fndL l g = none ∧ cv = .slice none 0 0 ∧ ∀ p, l[k]? = some p → p.1 ≠ g) ∨ ∃ p, l[k]? = some p ∧ p.1 = g ∧ fndL l g = some p.2 ∧ Cms w cv p.2)
set_option maxRecDepth 100000 in
set_option maxHeartbeats 4000000 in
theorem find_any {u w : World} {v : Value} {l : List Lg} (h : Lgs u v l) (hu : Below u.heap.size u w) (hr : risB l = true) (hl : l.length ≤ 1073741824) (g : Int) :
    Calls Tryz.prog 166 #[v, .int .i64 g] w fun e w' => ∃ (k : Nat) (a : Option Addr) (n c : Nat), e = .returned (.tuple #[.int .i64 (k : Int), .slice a n c]) ∧ FnP u l g k (.slice a n c) ∧ Below w.heap.size w w' := by
  obtain ⟨a, cap, rfl⟩ := h.slice
  obtain ⟨N, hN⟩ : ∃ N, N = l.length := ⟨_, rfl⟩
  rw [← hN] at h hl ⊢
  have hNI : (N : Int) ≤ 1073741824 := by omega
  obtain ⟨W0, hW0⟩ : ∃ W, W = (w.alloc (.cells #[.slice a N cap] 22)).alloc (.cells #[.int .i64 g] 3) := ⟨_, rfl⟩
  have bw0 : Below w.heap.size w W0 := by rw [hW0]; exact bw_tr (bwA _ _) (bwA _ _)
  have b0 : Below u.heap.size u W0 := bw_tr hu bw0
  have k1 : W0.heap[w.heap.size]? = some (.cells #[.slice a N cap] 22 (0, 0)) := by
    have h1 := heap_alloc_new w (.cells #[.slice a N cap] 22)
    rw [hW0, Below.heap_alloc _ _ _ (by simp)]; exact h1
  have k2 : W0.heap[w.heap.size + 1]? = some (.cells #[.int .i64 g] 3 (0, 0)) := by
    have h2 := heap_alloc_new (w.alloc (.cells #[.slice a N cap] 22)) (.cells #[.int .i64 g] 3)
    have e : (w.alloc (.cells #[.slice a N cap] 22)).heap.size = w.heap.size + 1 := by simp
    rw [e] at h2
    rw [hW0]; exact h2
  have c1 : W0.cell? ⟨w.heap.size, 0, none⟩ = some (.slice a N cap) := blk_c k1 rfl
  have c2 : W0.cell? ⟨w.heap.size + 1, 0, none⟩ = some (.int .i64 g) := blk_c k2 rfl
  have KS : Calls Tryz.prog 262 #[.int .i64 (N : Int), .func (.func 263) #[] #[.pointer (some ⟨w.heap.size, 0, none⟩), .pointer (some ⟨w.heap.size + 1, 0, none⟩)]] W0 fun e w' => ∃ k : Nat, e = .returned (.int .i64 (k : Int)) ∧ Hid (k ≤ N ∧ AtG l g k) ∧ ∃ q, w' = W0.drewN q := by
    refine (search_any (w := W0) (n := N) (bl := w.heap.size) (bg := w.heap.size + 1) (p := fun i => decide (g ≤ ((l.map (·.1)).getD i 0))) hl ?_ ?_).mono ?_
    · intro m i hi
      obtain ⟨p, hp⟩ : ∃ p, l[i]? = some p := ⟨_, List.getElem?_eq_getElem (by omega)⟩
      obtain ⟨gb, o, rfl, cv, _, d0, _⟩ := h.get hp
      have e : (l.map (·.1)).getD i 0 = p.1 := by rw [List.getD_eq_getElem?_getD, List.getElem?_map, hp]; rfl
      rw [e]
      have hb := below_drewN (Below.refl W0.heap.size W0) m
      exact find1_any hi hl (by rw [hb.cell (lt_of_cell c1)]; exact c1) (by rw [hb.cell (lt_of_cell c2)]; exact c2) (by rw [(bw_tr b0 hb).cell (lt_of_cell d0)]; exact d0)
    · intro x y hxy hy hpx
      simp only [decide_eq_true_eq] at hpx ⊢
      have hxl : x < l.length := by omega
      have hyl : y < l.length := by omega
      have ex : (l.map (·.1)).getD x 0 = l[x].1 := by rw [List.getD_eq_getElem?_getD, List.getElem?_map, List.getElem?_eq_getElem hxl]; rfl
      have ey : (l.map (·.1)).getD y 0 = l[y].1 := by rw [List.getD_eq_getElem?_getD, List.getElem?_map, List.getElem?_eq_getElem hyl]; rfl
      rw [ex] at hpx
      rw [ey]
      rcases Nat.lt_or_ge x y with c | c
      · have := ris_mono hr x y l[x] l[y] c (List.getElem?_eq_getElem hxl) (List.getElem?_eq_getElem hyl); omega
      · obtain rfl : x = y := by omega
        exact hpx
    · rintro e w' ⟨k, rfl, hk, h1, h2, hq⟩
      refine ⟨k, rfl, ⟨hk, by omega, fun j p hj hp => ?_, fun j p hj hp => ?_⟩, hq⟩
      · have := h1 j hj
        have e : (l.map (·.1)).getD j 0 = p.1 := by rw [List.getD_eq_getElem?_getD, List.getElem?_map, hp]; rfl
        simp only [e, decide_eq_false_iff_not] at this
        omega
      · have := h2 j hj (by have := (List.getElem?_eq_some_iff.1 hp).1; omega)
        have e : (l.map (·.1)).getD j 0 = p.1 := by rw [List.getD_eq_getElem?_getD, List.getElem?_map, hp]; rfl
        simp only [e, decide_eq_true_eq] at this
        omega
  have HW := hide hW0
  have HH := hide (And.intro h (And.intro hN (And.intro hr (And.intro b0 bw0))))
  have KH := hide KS
  clear h hr hl hN hW0 b0 bw0 hu k1 k2 KS
  go_enter Tryz.func166, Tryz.ntmps166
  go_upto_region 1 with fail
  rw [← unhide HW]
  clear HW
  go_wp2_with fail
  refine (unhide KH).mono ?_
  rintro e w1 ⟨k, rfl, hk, q, rfl⟩
  obtain ⟨hkN, hat⟩ := unhide hk
  obtain ⟨h, hN, hr, b0, bw0⟩ := unhide HH
  rcases Nat.lt_or_ge k N with hlt | hge
  · have hkI : (k : Int) < (N : Int) := by omega
    have h0 : (0 : Int) ≤ (k : Int) := by omega
    have hne : ((k : Int) == (N : Int)) = false := by simp; omega
    have hne2 : decide ((k : Int) = (N : Int)) = false := decide_eq_false (by omega)
    have hne3 : decide (k = N) = false := decide_eq_false (by omega)
    have hne4 : ¬ k = N := by omega
    obtain ⟨p, hp⟩ : ∃ p, l[k]? = some p := ⟨_, List.getElem?_eq_getElem (by omega)⟩
    obtain ⟨gb, o, rfl, cv, hcv, d0, d1⟩ := h.get hp
    obtain ⟨a2, n2, e2⟩ := hcv.slice
    subst e2
    obtain ⟨pg, hpg⟩ : ∃ z, z = p.1 := ⟨_, rfl⟩
    rw [← hpg] at d0
    have f0 : W0.cell? ⟨gb, o + k * 2, none⟩ = some (.int .i64 pg) := by rw [b0.cell (lt_of_cell d0)]; exact d0
    have f1 : W0.cell? ⟨gb, o + k * 2 + 1, none⟩ = some (.slice a2 p.2.length n2) := by rw [b0.cell (lt_of_cell d1)]; exact d1
    by_cases hq : pg = g
    · have HR : Hid (FnP u l g k (.slice a2 p.2.length n2) ∧ Below w.heap.size w W0) := ⟨⟨hat, Or.inr ⟨p, hp, by rw [← hpg]; exact hq, hat.found hr hp (by rw [← hpg]; exact hq), hcv⟩⟩, bw0⟩
      clear hat h hN hr b0 bw0 hp hcv d0 d1 hpg hk KH HH hlt hkN
      generalize p.2.length = M at *
      subst hq
      go_wp2_with fail
      go_quiet (fail)
      go_wp2_with fail
      go_quiet (fail)
      go_wp2_with fail
      go_ret2
      exact ⟨k, _, _, _, rfl, (unhide HR).1, below_drewN (below_drewN (below_drewN (unhide HR).2 _) _) _⟩
    · have hq2 : (pg == g) = false := by simp [hq]
      have hq3 : decide (pg = g) = false := decide_eq_false hq
      have HR : Hid (FnP u l g k (.slice none 0 0) ∧ Below w.heap.size w W0) := by
        have hn : ∀ p', l[k]? = some p' → p'.1 ≠ g := fun p' hp' => by rw [hp] at hp'; cases hp'; rw [← hpg]; exact hq
        exact ⟨⟨hat, Or.inl ⟨hat.none hr hn, rfl, hn⟩⟩, bw0⟩
      clear hat h hN hr b0 bw0 hp hcv d0 d1 hpg hk KH HH hlt hkN f1
      go_wp2_with fail
      go_quiet (fail)
      go_wp2_with fail
      go_ret2
      exact ⟨k, _, _, _, rfl, (unhide HR).1, below_drewN (below_drewN (unhide HR).2 _) _⟩
  · obtain rfl : k = N := by omega
    have HR : Hid (FnP u l g k (.slice none 0 0) ∧ Below w.heap.size w W0) := by
      have hn : ∀ p', l[k]? = some p' → p'.1 ≠ g := fun p' hp' => by rw [List.getElem?_eq_none (by omega)] at hp'; cases hp'
      exact ⟨⟨hat, Or.inl ⟨hat.none hr hn, rfl, hn⟩⟩, bw0⟩
    clear hat h hN hr b0 bw0 hk KH HH hge hkN
    go_wp2_with fail
    go_quiet (fail)
    go_wp2_with fail
    go_ret2
    exact ⟨k, _, _, _, rfl, (unhide HR).1, below_drewN (below_drewN (unhide HR).2 _) _⟩
end Go.Proofs.YtnfhbmlmemifjaaGreatDoor

/- A group's commits (commits, has); Len. -/
namespace Go.Proofs.YtnfhbmlmemifjaaGreatDoor
open Go.RowKit Go.Maps
def cmsL (l : List Lg) (g : Int) : List Cm := if chkB l = true then (fndL l g).getD [] else []
theorem cmsL_len (l : List Lg) (g : Int) : (cmsL l g).length = lenL l g := by unfold cmsL lenL; split <;> rfl
theorem cmsL_sm {l : List Lg} (hs : SmL l) (g : Int) : SmG (g, cmsL l g) := by
  unfold cmsL
  split
  · cases hf : fndL l g with
    | none => exact ⟨by simp, by simp⟩
    | some cs => exact hs.g _ (fndL_mem hf)
  · exact ⟨by simp, by simp⟩
theorem Cms.none (w : World) : Cms w (.slice none 0 0) [] := ⟨by simp, Option.none, 0, rfl, Or.inl rfl⟩
set_option maxRecDepth 100000 in
set_option maxHeartbeats 4000000 in
theorem commits_any {u w : World} {v : Value} {l : List Lg} (h : Lgs u v l) (hu : Below u.heap.size u w) (hs : SmL l) (hT : Tab w) (g : Int) :
    Calls Tryz.prog 35 #[v, .int .i64 g] w fun e w' => ∃ (a : Option Addr) (c : Nat), e = .returned (.slice a (lenL l g) c) ∧ Cms u (.slice a (lenL l g) c) (cmsL l g) ∧ Below w.heap.size w w' := by
  have KM := hide (mayBeL_any (h.bw hu) hT)
  have KF : Hid (chkB l = true → ∀ W, Below w.heap.size w W → Calls Tryz.prog 166 #[v, .int .i64 g] W fun e w' => ∃ (k : Nat) (a : Option Addr) (n c : Nat), e = .returned (.tuple #[.int .i64 (k : Int), .slice a n c]) ∧ Hid (n = lenL l g ∧ Cms u (.slice a n c) (cmsL l g)) ∧ Below W.heap.size W w') := fun hc W hW => by
    refine (find_any h (bw_tr hu hW) (chk_parts hc).2.1 hs.n g).mono ?_
    rintro e w' ⟨k, a, n, c, rfl, ⟨hat, hF⟩, hb⟩
    have hcm : Cms u (.slice a n c) (cmsL l g) := by
      unfold cmsL
      rw [if_pos hc]
      rcases hF with ⟨e1, e2, _⟩ | ⟨p, hp, e1, e2, e3⟩
      · rw [e1]; cases e2; exact Cms.none u
      · rw [e2]; exact e3
    have hlen : n = (cmsL l g).length := by
      obtain ⟨a9, c9, e9⟩ := hcm.slice
      cases e9; rfl
    exact ⟨k, a, n, c, rfl, ⟨by rw [hlen]; exact cmsL_len l g, hcm⟩, hb⟩
  have HC : Hid (chkB l = false → lenL l g = 0 ∧ cmsL l g = []) := fun q => by unfold lenL cmsL; rw [q]; exact ⟨rfl, rfl⟩
  obtain ⟨a, cap, rfl⟩ := h.slice
  obtain ⟨L, hL⟩ : ∃ z, z = lenL l g := ⟨_, rfl⟩
  rw [← hL] at KF HC ⊢
  generalize chkB l = r at *
  clear h hs hT hL hu
  generalize l.length = N at *
  go_enter Tryz.func35, Tryz.ntmps35
  go_wp2_with fail
  refine (unhide KM).mono ?_
  rintro e w1 ⟨rfl, b1⟩
  have B1 := hide b1
  clear b1 KM
  cases r with
  | false =>
    obtain ⟨e1, e2⟩ := unhide HC rfl
    subst e1
    clear KF HC
    go_wp2_with fail
    go_ret
    exact ⟨_, _, rfl, by rw [e2]; exact Cms.none u, unhide B1⟩
  | true =>
    have KF1 := hide (unhide KF rfl w1 (unhide B1))
    clear KF HC
    go_wp2_with fail
    refine (unhide KF1).mono ?_
    rintro e w2 ⟨k, a2, n, c, rfl, hn, b2⟩
    have HR := hide (And.intro (unhide hn) (bw_tr (unhide B1) b2))
    clear hn b2 KF1 B1
    go_wp2_with fail
    go_ret
    obtain ⟨⟨e1, e2⟩, e3⟩ := unhide HR
    subst e1
    exact ⟨_, _, rfl, e2, e3⟩
set_option maxHeartbeats 1000000 in
theorem has_any (w : World) (a : Option Addr) (n c : Nat) (e : Int) (hn : n ≤ 1073741824) :
    Calls Tryz.prog 36 #[.slice a n c, .int .i64 e] w fun r w' => r = .returned (.bool (decide (0 ≤ e ∧ e < (n : Int)))) ∧ w' = w := by
  have hnI : (n : Int) ≤ 1073741824 := by omega
  by_cases h0 : 0 ≤ e
  · by_cases h1 : e < (n : Int)
    · rw [decide_eq_true (show 0 ≤ e ∧ e < (n : Int) from ⟨h0, h1⟩)]
      go_enter Tryz.func36, Tryz.ntmps36
      go_wp2_with fail
      go_ret
      exact ⟨rfl, rfl⟩
    · rw [decide_eq_false (show ¬ (0 ≤ e ∧ e < (n : Int)) from fun q => h1 q.2)]
      go_enter Tryz.func36, Tryz.ntmps36
      go_wp2_with fail
      go_ret
      exact ⟨rfl, rfl⟩
  · rw [decide_eq_false (show ¬ (0 ≤ e ∧ e < (n : Int)) from fun q => h0 q.1)]
    go_enter Tryz.func36, Tryz.ntmps36
    go_wp2_with fail
    go_ret
    exact ⟨rfl, rfl⟩
set_option maxHeartbeats 1000000 in
theorem lgLen_any {w : World} {v : Value} {l : List Lg} (h : Lgs w v l) (hs : SmL l) (hT : Tab w) (g : Int) :
    Calls Tryz.prog 16 #[v, .int .i64 g] w fun e w' => e = .returned (.int .i64 (lenL l g : Nat)) ∧ Below w.heap.size w w' := by
  have K := hide (commits_any h (Below.refl _ _) hs hT g)
  obtain ⟨a, cap, rfl⟩ := h.slice
  generalize lenL l g = L at *
  generalize l.length = N at *
  clear h hT hs
  go_enter Tryz.func16, Tryz.ntmps16
  go_wp2_with fail
  refine (unhide K).mono ?_
  rintro e w1 ⟨a1, c1, rfl, hc, b1⟩
  have B1 := hide b1
  clear b1 hc K
  go_wp2_with fail
  go_ret
  exact ⟨rfl, unhide B1⟩
end Go.Proofs.YtnfhbmlmemifjaaGreatDoor

/- Whom an epoch's commit touches, plainly. -/
namespace Go.Proofs.YtnfhbmlmemifjaaGreatDoor
open Go.RowKit Go.Maps
def srt (l : List Int) : List Int := l.mergeSort fun x y => decide (x ≤ y)
def tchO (a b : List Int) : List Int := Lib.compact (srt (a ++ b))
theorem mems_ne {T : List Nd} (h : mayB T = true) (h0 : T.length ≠ 0) : mems T ≠ [] := by
  unfold mayB at h
  simp only [Bool.or_eq_true, Bool.and_eq_true, List.isEmpty_iff] at h
  rcases h with h | ⟨_, h⟩
  · rw [h] at h0; simp at h0
  · unfold anyM at h
    obtain ⟨i, hi, hq⟩ := List.any_eq_true.1 h
    simp only [Bool.and_eq_true, decide_eq_true_eq] at hq
    have hm : ndAt T (2 * i) ∈ lvs T := List.mem_of_getElem? (lvs_get (List.mem_range.1 hi))
    unfold mems memsOf
    intro hc
    have : (lvs T).filter pos = [] := by simpa using hc
    exact List.filter_eq_nil_iff.1 this _ hm hq.2
theorem mems_len {T : List Nd} (h : mayB T = true) : (mems T).length ≤ 8 := by
  have h1 := memsOf_len (lvs T)
  rw [lvs_len] at h1
  have := (mayB_15 h).2
  unfold mems
  omega
theorem cmsL_may {l : List Lg} {g : Int} {i : Nat} {c : Cm} (h : (cmsL l g)[i]? = some c) : chkB l = true ∧ c.gr = g ∧ c.ep = (i : Int) ∧ mayB c.next = true ∧ c.next.length ≠ 0 := by
  unfold cmsL at h
  split at h
  · next hc =>
    cases hf : fndL l g with
    | none => rw [hf] at h; simp at h
    | some cs =>
      rw [hf] at h
      have h1 := (log_iff.1 ((chk_parts hc).2.2 _ (fndL_mem hf))).2 i c h
      obtain ⟨q1, q2, q3⟩ := h1
      unfold mayC at q3
      simp only [Bool.and_eq_true, decide_eq_true_eq] at q3
      exact ⟨hc, q1, q2, q3.1.2, q3.2⟩
  · simp at h
def tchA (cs : List Cm) (i : Nat) : List Int :=
  match cs[i]? with
  | none => []
  | some c => tchO (mems c.next) (if i = 0 then [] else match cs[i - 1]? with | none => [] | some d => mems d.next)
def tchL (l : List Lg) (g e : Int) : List Int := if 0 ≤ e then tchA (cmsL l g) e.toNat else []
end Go.Proofs.YtnfhbmlmemifjaaGreatDoor
