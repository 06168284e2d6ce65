/- Texts joined: LgN LgO. -/
import Derived.Test.YthlbdajnkdkocaaDoorZ18
import Derived.Test.YthlbdajnkdkocaaDoorZ14
import Derived.Deep.RegionHeld3
/- May a commit be taken, may a log be (mayBeTaken, mayBeOne). -/
namespace Go.Proofs.YthlbdajnkdkocaaDoor
open Go.RowKit Go.Maps
set_option maxRecDepth 100000 in
set_option maxHeartbeats 4000000 in
theorem taken_any {w : World} {c : Cm} {x : Cv} (h : CmR w c x) (hT : Tab w) :
    Calls Tryd.prog 21 #[cmV c x] w fun e w' => e = .returned (.bool (mayC c)) ∧ Below w.heap.size w w' := by
  obtain ⟨a1, k1, e1⟩ := h.adds.slice
  obtain ⟨a2, k2, e2⟩ := nums_slice h.rem
  obtain ⟨a3, k3, e3⟩ := h.seals.slice
  obtain ⟨a4, k4, e4⟩ := h.joins.slice
  obtain ⟨a5, k5, e5⟩ := h.next.slice
  obtain ⟨w0, hw0⟩ : ∃ w0, w0 = w.alloc (.cells (cmC c x).toArray 31) := ⟨_, rfl⟩
  have bl : Below w.heap.size w w0 := by rw [hw0]; exact bwA _ _
  have kk : w0.heap[w.heap.size]? = some (.cells (cmC c x).toArray 31 (0, 0)) := by rw [hw0]; exact heap_alloc_new _ _
  have KT := check_any (h.next.bw bl) (hT.bw bl)
  obtain ⟨mb, hmb⟩ : ∃ b, b = mayB c.next := ⟨_, rfl⟩
  rw [← hmb] at KT
  have hm : mayC c = (decide (0 ≤ c.ep) && mb && decide (c.next.length ≠ 0)) := by rw [hmb]; rfl
  rw [hm]
  clear hm hmb
  obtain ⟨g0, g1, g2, g3, g4, g5, adds, rem, seals, joins, g10, g11, next, g13, g14⟩ := c
  obtain ⟨av, rv, qv, jv, nv⟩ := x
  simp only at e1 e2 e3 e4 e5 KT
  subst e1 e2 e3 e4 e5
  have hnl : next.length ≤ 140737488355328 := h.next.len
  generalize adds.length = LA at *
  generalize rem.length = LR at *
  generalize seals.length = LQ at *
  generalize joins.length = LJ at *
  generalize next.length = LN at *
  have hNb : (LN : Int) ≤ 140737488355328 := by omega
  have c1 : w0.cell? ⟨w.heap.size, 1, none⟩ = some (.int .i64 g1) := blk_c kk rfl
  have c12 : w0.cell? ⟨w.heap.size, 12, none⟩ = some (.slice a5 LN k5) := blk_c kk rfl
  have HW : Hid (w0 = w.alloc (.cells #[.int .i64 g0, .int .i64 g1, .int .i64 g2, .int .i64 g3, .int .i64 g4, .bool g5, .slice a1 LA k1, .slice a2 LR k2, .slice a3 LQ k3, .slice a4 LJ k4, .int .i64 g10, .int .i64 g11, .slice a5 LN k5, .int .i64 g13, .int .i64 g14] 31)) := hw0
  have KH := hide KT
  have BL := hide bl
  unfold cmV cmC
  clear h hw0 kk KT bl hnl hT
  by_cases hg : 0 ≤ g1
  · have hd : decide (0 ≤ g1) = true := decide_eq_true hg
    rw [hd]
    clear hg
    rcases Nat.eq_zero_or_pos LN with z | z
    · subst z
      go_enter Tryd.func21, Tryd.ntmps21
      go_upto_region 1 with fail
      rw [← unhide HW]
      clear HW
      go_wp2_with fail
      go_ret
      exact ⟨by simp, unhide BL⟩
    · have hz : (0 : Int) < (LN : Int) := by omega
      have hn : LN ≠ 0 := by omega
      rw [show decide (LN ≠ 0) = true from decide_eq_true hn]
      go_enter Tryd.func21, Tryd.ntmps21
      go_upto_region 1 with fail
      rw [← unhide HW]
      clear HW
      go_wp2_with fail
      refine (unhide KH).mono ?_
      rintro e w1 ⟨rfl, b1⟩
      have B1 := hide (bw_tr (unhide BL) b1)
      clear b1
      cases mb with
      | true =>
        simp only [if_true] at *
        go_wp2_with fail
        go_ret
        exact ⟨rfl, unhide B1⟩
      | false =>
        simp only [Bool.false_eq_true, if_false] at *
        go_wp2_with fail
        go_ret
        exact ⟨rfl, unhide B1⟩
  · have hd : decide (0 ≤ g1) = false := decide_eq_false hg
    rw [hd]
    go_enter Tryd.func21, Tryd.ntmps21
    go_upto_region 1 with fail
    rw [← unhide HW]
    clear HW
    go_wp2_with fail
    go_ret
    exact ⟨rfl, unhide BL⟩
set_option maxRecDepth 100000 in
set_option maxHeartbeats 8000000 in
theorem mayOne_any {w : World} {p : Lg} {v : Value} (h : Cms w v p.2) (hT : Tab w) :
    Calls Tryd.prog 39 #[.agg #[.int .i64 p.1, v]] w fun e w' => e = .returned (.bool (logB p)) ∧ Below w.heap.size w w' := by
  obtain ⟨a, cap, rfl⟩ := h.slice
  have hl := h.len
  obtain ⟨w0, hw0⟩ : ∃ w0, w0 = w.alloc (.cells #[.int .i64 p.1, .slice a p.2.length cap] 46) := ⟨_, rfl⟩
  have bl : Below w.heap.size w w0 := by rw [hw0]; exact bwA _ _
  have kk : w0.heap[w.heap.size]? = some (.cells #[.int .i64 p.1, .slice a p.2.length cap] 46 (0, 0)) := by rw [hw0]; exact heap_alloc_new _ _
  obtain ⟨pg, hpg⟩ : ∃ z, z = p.1 := ⟨_, rfl⟩
  obtain ⟨M, hM⟩ : ∃ z, z = p.2.length := ⟨_, rfl⟩
  obtain ⟨r, hr⟩ : ∃ r, r = logB p := ⟨_, rfl⟩
  rw [← hpg, ← hM] at kk hw0
  rw [← hpg, ← hM, ← hr]
  rw [← hM] at hl h
  have hMI : (M : Int) ≤ 140737488355328 := by omega
  have HP : Hid (∀ W, Below w0.heap.size w0 W → W.cell? ⟨w.heap.size, 0, none⟩ = some (.int .i64 pg) ∧ W.cell? ⟨w.heap.size, 1, none⟩ = some (.slice a M cap) ∧ Cms W (.slice a M cap) p.2 ∧ Tab W ∧ Below w.heap.size w W) := fun W hW => by
    have k2 := kept_b kk (lt_of_blk kk) hW
    exact ⟨blk_c k2 rfl, blk_c k2 rfl, (h.bw bl).bw hW, (hT.bw bl).bw hW, bw_tr bl hW⟩
  have HH := hide (And.intro hpg (And.intro hM hr))
  have HW := hide hw0
  have c1 : w0.cell? ⟨w.heap.size, 1, none⟩ = some (.slice a M cap) := blk_c kk rfl
  clear h hl hT hw0 bl kk hpg hM hr
  go_enter Tryd.func39, Tryd.ntmps39
  go_upto_region 1 with fail
  rw [← unhide HW]
  clear HW
  go_wp2_with fail
  clear c1
  go_loopw [8] (fun iv wr => ∃ i : Nat, i ≤ M ∧ iv = .int .i64 (i : Int) ∧ Hid (Below w0.heap.size w0 wr ∧ ∀ j c, j < i → p.2[j]? = some c → okC p.1 j c)) (fun iv _ => (M - intOf iv).toNat)
  case atStart => exact ⟨0, Nat.zero_le _, rfl, Below.refl _ _, fun j c hj => absurd hj (by omega)⟩
  case round =>
    obtain ⟨i, hi, rfl, HK⟩ := hrel
    by_cases hlt : i < M
    · have hiI : (i : Int) < (M : Int) := by omega
      have h0 : (0 : Int) ≤ (i : Int) := by omega
      obtain ⟨f0, f1, hcw, hT, B0⟩ := unhide HP wr (unhide HK).1
      obtain ⟨c, hc⟩ : ∃ c, p.2[i]? = some c := ⟨_, List.getElem?_eq_getElem (by have := (unhide HH).2.1; omega)⟩
      obtain ⟨b', o', rfl, x, hx, hcc⟩ := hcw.get hc
      obtain ⟨a1, k1, x1⟩ := hx.adds.slice
      obtain ⟨a2, k2, x2⟩ := nums_slice hx.rem
      obtain ⟨a3, k3, x3⟩ := hx.seals.slice
      obtain ⟨a4, k4, x4⟩ := hx.joins.slice
      obtain ⟨a5, k5, x5⟩ := hx.next.slice
      obtain ⟨W1, hW1⟩ : ∃ W1, W1 = wr.alloc (.cells (cmC c x).toArray 31) := ⟨_, rfl⟩
      have bl : Below wr.heap.size wr W1 := by rw [hW1]; exact bwA _ _
      have kk : W1.heap[wr.heap.size]? = some (.cells (cmC c x).toArray 31 (0, 0)) := by rw [hW1]; exact heap_alloc_new _ _
      have KM := taken_any (hx.bw bl) (hT.bw bl)
      obtain ⟨mb, hmb⟩ : ∃ z, z = mayC c := ⟨_, rfl⟩
      obtain ⟨OK, hOK⟩ : ∃ P : Prop, P = okC p.1 i c := ⟨_, rfl⟩
      have HOK : Hid (OK ↔ c.gr = pg ∧ c.ep = (i : Int) ∧ mb = true) := by
        rw [hOK, (unhide HH).1, hmb]; exact Iff.rfl
      have HBD : Hid (¬ OK → r = false) := fun hn => by
        rw [hOK] at hn
        rw [(unhide HH).2.2]
        cases hq : logB p with
        | false => rfl
        | true => exact absurd ((log_iff.1 hq).2 i c hc) hn
      have HNX : Hid (OK → ∀ j c', j < i + 1 → p.2[j]? = some c' → okC p.1 j c') := fun ho j c' hj hc' => by
        rw [hOK] at ho
        rcases Nat.lt_or_ge j i with d | d
        · exact (unhide HK).2 j c' d hc'
        · obtain rfl : j = i := by omega
          rw [hc] at hc'; cases hc'; exact ho
      have BB := hide (And.intro (bw_tr (unhide HK).1 bl) (bw_tr B0 bl))
      have f0' : W1.cell? ⟨w.heap.size, 0, none⟩ = some (.int .i64 pg) := by rw [bl.cell (lt_of_cell f0)]; exact f0
      rw [← hmb] at KM
      clear hmb hOK hc hcw HK B0 hT
      obtain ⟨g0, g1, g2, g3, g4, g5, adds, rem, seals, joins, g10, g11, next, g13, g14⟩ := c
      obtain ⟨av, rv, qv, jv, nv⟩ := x
      simp only at x1 x2 x3 x4 x5 HOK
      subst x1 x2 x3 x4 x5
      generalize adds.length = LA at *
      generalize rem.length = LR at *
      generalize seals.length = LQ at *
      generalize joins.length = LJ at *
      generalize next.length = LN at *
      have y0 : wr.cell? ⟨b', o' + i * 15, none⟩ = some (.int .i64 g0) := hcc 0 _ rfl
      have y1 : wr.cell? ⟨b', o' + i * 15 + 1, none⟩ = some (.int .i64 g1) := hcc 1 _ rfl
      have y2 : wr.cell? ⟨b', o' + i * 15 + 2, none⟩ = some (.int .i64 g2) := hcc 2 _ rfl
      have y3 : wr.cell? ⟨b', o' + i * 15 + 3, none⟩ = some (.int .i64 g3) := hcc 3 _ rfl
      have y4 : wr.cell? ⟨b', o' + i * 15 + 4, none⟩ = some (.int .i64 g4) := hcc 4 _ rfl
      have y5 : wr.cell? ⟨b', o' + i * 15 + 5, none⟩ = some (.bool g5) := hcc 5 _ rfl
      have y6 : wr.cell? ⟨b', o' + i * 15 + 6, none⟩ = some (.slice a1 LA k1) := hcc 6 _ rfl
      have y7 : wr.cell? ⟨b', o' + i * 15 + 7, none⟩ = some (.slice a2 LR k2) := hcc 7 _ rfl
      have y8 : wr.cell? ⟨b', o' + i * 15 + 8, none⟩ = some (.slice a3 LQ k3) := hcc 8 _ rfl
      have y9 : wr.cell? ⟨b', o' + i * 15 + 9, none⟩ = some (.slice a4 LJ k4) := hcc 9 _ rfl
      have y10 : wr.cell? ⟨b', o' + i * 15 + 10, none⟩ = some (.int .i64 g10) := hcc 10 _ rfl
      have y11 : wr.cell? ⟨b', o' + i * 15 + 11, none⟩ = some (.int .i64 g11) := hcc 11 _ rfl
      have y12 : wr.cell? ⟨b', o' + i * 15 + 12, none⟩ = some (.slice a5 LN k5) := hcc 12 _ rfl
      have y13 : wr.cell? ⟨b', o' + i * 15 + 13, none⟩ = some (.int .i64 g13) := hcc 13 _ rfl
      have y14 : wr.cell? ⟨b', o' + i * 15 + 14, none⟩ = some (.int .i64 g14) := hcc 14 _ rfl
      have s0 : W1.cell? ⟨wr.heap.size, 0, none⟩ = some (.int .i64 g0) := blk_c kk rfl
      have s1 : W1.cell? ⟨wr.heap.size, 1, none⟩ = some (.int .i64 g1) := blk_c kk rfl
      have s2 : W1.cell? ⟨wr.heap.size, 2, none⟩ = some (.int .i64 g2) := blk_c kk rfl
      have s3 : W1.cell? ⟨wr.heap.size, 3, none⟩ = some (.int .i64 g3) := blk_c kk rfl
      have s4 : W1.cell? ⟨wr.heap.size, 4, none⟩ = some (.int .i64 g4) := blk_c kk rfl
      have s5 : W1.cell? ⟨wr.heap.size, 5, none⟩ = some (.bool g5) := blk_c kk rfl
      have s6 : W1.cell? ⟨wr.heap.size, 6, none⟩ = some (.slice a1 LA k1) := blk_c kk rfl
      have s7 : W1.cell? ⟨wr.heap.size, 7, none⟩ = some (.slice a2 LR k2) := blk_c kk rfl
      have s8 : W1.cell? ⟨wr.heap.size, 8, none⟩ = some (.slice a3 LQ k3) := blk_c kk rfl
      have s9 : W1.cell? ⟨wr.heap.size, 9, none⟩ = some (.slice a4 LJ k4) := blk_c kk rfl
      have s10 : W1.cell? ⟨wr.heap.size, 10, none⟩ = some (.int .i64 g10) := blk_c kk rfl
      have s11 : W1.cell? ⟨wr.heap.size, 11, none⟩ = some (.int .i64 g11) := blk_c kk rfl
      have s12 : W1.cell? ⟨wr.heap.size, 12, none⟩ = some (.slice a5 LN k5) := blk_c kk rfl
      have s13 : W1.cell? ⟨wr.heap.size, 13, none⟩ = some (.int .i64 g13) := blk_c kk rfl
      have s14 : W1.cell? ⟨wr.heap.size, 14, none⟩ = some (.int .i64 g14) := blk_c kk rfl
      have K0 : Hid (Calls Tryd.prog 21 #[.agg #[.int .i64 g0, .int .i64 g1, .int .i64 g2, .int .i64 g3, .int .i64 g4, .bool g5, .slice a1 LA k1, .slice a2 LR k2, .slice a3 LQ k3, .slice a4 LJ k4, .int .i64 g10, .int .i64 g11, .slice a5 LN k5, .int .i64 g13, .int .i64 g14]] W1 fun e w' => e = .returned (.bool mb) ∧ Below W1.heap.size W1 w') := KM
      have HW : Hid (W1 = wr.alloc (.cells #[.int .i64 g0, .int .i64 g1, .int .i64 g2, .int .i64 g3, .int .i64 g4, .bool g5, .slice a1 LA k1, .slice a2 LR k2, .slice a3 LQ k3, .slice a4 LJ k4, .int .i64 g10, .int .i64 g11, .slice a5 LN k5, .int .i64 g13, .int .i64 g14] 31)) := hW1
      clear hW1 bl kk KM hx hcc f0 f1
      go_upto_region 4 with fail
      rw [← unhide HW]
      clear HW y0 y1 y2 y3 y4 y5 y6 y7 y8 y9 y10 y11 y12 y13 y14
      by_cases z1 : g0 = pg
      · by_cases z2 : g1 = (i : Int)
        · have HMB : Hid (mb = true → OK) := fun hm => (unhide HOK).2 ⟨z1, z2, hm⟩
          have HMB2 : Hid (mb = false → r = false) := fun hm => unhide HBD (fun ho => by have := ((unhide HOK).1 ho).2.2; rw [hm] at this; cases this)
          clear HOK HBD
          subst z1 z2
          go_wp2_with fail
          refine (unhide K0).mono ?_
          rintro e w2 ⟨rfl, b2⟩
          have B2 := hide (And.intro (bw_tr (unhide BB).1 b2) (bw_tr (unhide BB).2 b2))
          clear b2 s0 s1 s2 s3 s4 s5 s6 s7 s8 s9 s10 s11 s12 s13 s14 K0 f0' BB
          cases mb with
          | true =>
            go_wp2_with fail
            go_roundw
            case rel => exact ⟨i + 1, by omega, by go_num, (unhide B2).1, unhide HNX (unhide HMB (by trivial))⟩
            case measure => simp only [intOf]; omega
          | false =>
            go_wp2_with fail
            go_ret
            exact ⟨by rw [unhide HMB2 (by trivial)]; rfl, (unhide B2).2⟩
        · have HR1 := hide (unhide HBD (fun ho => z2 ((unhide HOK).1 ho).2.1))
          clear HOK HBD HNX K0
          subst z1
          go_wp2_with fail
          go_ret
          exact ⟨by rw [unhide HR1]; rfl, (unhide BB).2⟩
      · have HR1 := hide (unhide HBD (fun ho => z1 ((unhide HOK).1 ho).1))
        clear HOK HBD HNX K0
        go_wp2_with fail
        go_ret
        exact ⟨by rw [unhide HR1]; rfl, (unhide BB).2⟩
    · obtain rfl : i = M := by omega
      obtain ⟨f0, f1, hcw, hT, B0⟩ := unhide HP wr (unhide HK).1
      have HR : Hid (r = decide (0 < i) ∧ Below w.heap.size w wr) := by
        refine ⟨?_, B0⟩
        obtain ⟨_, hM, hr⟩ := unhide HH
        rw [hr]
        rcases Nat.eq_zero_or_pos i with z | z
        · have : logB p = false := by
            cases hq : logB p with
            | false => rfl
            | true => exact absurd (by omega) (log_iff.1 hq).1
          rw [this]; exact (decide_eq_false (by omega)).symm
        · rw [decide_eq_true z]
          exact log_iff.2 ⟨by omega, fun k c hc => (unhide HK).2 k c (by have := (List.getElem?_eq_some_iff.1 hc).1; omega) hc⟩
      clear hcw hT B0 HK f0 HP HH
      rcases Nat.eq_zero_or_pos i with z | z
      · subst z
        go_wp2_with fail
        go_ret
        exact ⟨by rw [(unhide HR).1]; rfl, (unhide HR).2⟩
      · have z1 : (0 : Int) < (i : Int) := by omega
        have HD : Hid (decide (0 < i) = true) := decide_eq_true z
        go_wp2_with fail
        go_ret
        exact ⟨by rw [(unhide HR).1, unhide HD]; rfl, (unhide HR).2⟩
end Go.Proofs.YthlbdajnkdkocaaDoor

/- May logs be (mayBe); Check. -/
namespace Go.Proofs.YthlbdajnkdkocaaDoor
open Go.RowKit Go.Maps
set_option maxRecDepth 100000 in
set_option maxHeartbeats 8000000 in
theorem mayBeL_any {w : World} {v : Value} {l : List Lg} (h : Lgs w v l) (hT : Tab w) :
    Calls Tryd.prog 20 #[v] w fun e w' => e = .returned (.bool (chkB l)) ∧ Below w.heap.size w w' := by
  obtain ⟨a, cap, rfl⟩ := h.slice
  have hl := h.len
  obtain ⟨N, hN⟩ : ∃ N, N = l.length := ⟨_, rfl⟩
  rw [← hN] at h hl ⊢
  have hNI : (N : Int) ≤ 140737488355328 := by omega
  obtain ⟨r, hr⟩ : ∃ r, r = chkB l := ⟨_, rfl⟩
  rw [← hr]
  have HH := hide (And.intro h (And.intro hN (And.intro hr hT)))
  by_cases h16 : N ≤ 16
  · have h16I : (N : Int) ≤ 16 := by omega
    have h17 : ¬ (16 : Int) < (N : Int) := by omega
    have HE : Hid ((∀ j, j < N → okL l j) → r = true) := fun q => by rw [hr]; exact chk_iff.2 ⟨by omega, fun j hj => q j (by omega)⟩
    have HB : Hid (∀ j, j < N → ¬ okL l j → r = false) := fun j hj q => by
      rw [hr]
      cases hq : chkB l with
      | false => rfl
      | true => exact absurd ((chk_iff.1 hq).2 j (by omega)) q
    clear h hN hl hr hT
    go_enter Tryd.func20, Tryd.ntmps20
    go_wp2_with fail
    go_loopw [10] (fun iv wr => ∃ i : Nat, i ≤ N ∧ iv = .int .i64 (i : Int) ∧ Hid (Below w.heap.size w wr ∧ ∀ j, j < i → okL l j)) (fun iv _ => (N - intOf iv).toNat)
    case atStart => exact ⟨0, Nat.zero_le _, rfl, Below.refl _ _, fun j hj => absurd hj (by omega)⟩
    case round =>
      obtain ⟨i, hi, rfl, HR⟩ := hrel
      by_cases hlt : i < N
      · have hiI : (i : Int) < (N : Int) := by omega
        have h0 : (0 : Int) ≤ (i : Int) := by omega
        obtain ⟨h, hN, hr, hT⟩ := unhide HH
        obtain ⟨p, hp⟩ : ∃ p, l[i]? = some p := ⟨_, List.getElem?_eq_getElem (by omega)⟩
        obtain ⟨gb, o, rfl, cv, hcv, d0, d1⟩ := h.get hp
        obtain ⟨a2, c2, hcv2⟩ := hcv.slice
        obtain ⟨pg, hpg⟩ : ∃ z, z = p.1 := ⟨_, rfl⟩
        obtain ⟨M, hM⟩ : ∃ z, z = p.2.length := ⟨_, rfl⟩
        rw [← hM] at hcv2
        subst hcv2
        rw [← hpg] at d0
        have f0 : wr.cell? ⟨gb, o + i * 2, none⟩ = some (.int .i64 pg) := by rw [(unhide HR).1.cell (lt_of_cell d0)]; exact d0
        have f1 : wr.cell? ⟨gb, o + i * 2 + 1, none⟩ = some (.slice a2 M c2) := by rw [(unhide HR).1.cell (lt_of_cell d1)]; exact d1
        obtain ⟨W1, hW1⟩ : ∃ W1, W1 = wr.alloc (.cells #[.int .i64 pg, .slice a2 M c2] 46) := ⟨_, rfl⟩
        have bl : Below wr.heap.size wr W1 := by rw [hW1]; exact bwA _ _
        have kk : W1.heap[wr.heap.size]? = some (.cells #[.int .i64 pg, .slice a2 M c2] 46 (0, 0)) := by rw [hW1]; exact heap_alloc_new _ _
        have bD : Below W1.heap.size W1 W1.drew := (Below.refl _ _).drew
        have bAll : Below w.heap.size w W1.drew := bw_tr (bw_tr (unhide HR).1 bl) bD
        have KM := mayOne_any (p := p) (hcv.bw bAll) (hT.bw bAll)
        obtain ⟨lb, hlb⟩ : ∃ z, z = logB p := ⟨_, rfl⟩
        rw [← hlb, ← hpg] at KM
        have BB := hide (bw_tr (unhide HR).1 bl)
        have HW := hide hW1
        have HBD : Hid (lb = false → r = false) := fun q => unhide HB i hlt (fun ho => by have := (ho p hp).1; rw [← hlb, q] at this; cases this)
        have HOK : Hid (lb = true → (∀ q i'', i = i'' + 1 → l[i'']? = some q → q.1 < p.1) → ∀ j, j < i + 1 → okL l j) := fun q1 q2 j hj => by
          rcases Nat.lt_or_ge j i with d | d
          · exact (unhide HR).2 j d
          · obtain rfl : j = i := by omega
            intro p' hp'
            rw [hp] at hp'; cases hp'
            exact ⟨by rw [← hlb]; exact q1, fun q i'' e hq => q2 q i'' e hq⟩
        clear hcv bAll hM hlb
        by_cases hi0 : i = 0
        · have HNX : Hid (lb = true → ∀ j, j < i + 1 → okL l j) := fun q => unhide HOK q (fun q' i'' e => absurd e (by omega))
          have i1 : decide ((0 : Int) < (i : Int)) = false := decide_eq_false (by omega)
          have i2 : ¬ (0 : Int) < (i : Int) := by omega
          have i3 : decide (0 < i) = false := decide_eq_false (by omega)
          clear hi0 h hN hr hT hp d0 d1 hpg HOK HR HB
          have S0 : W1.cell? ⟨wr.heap.size, 0, none⟩ = some (.int .i64 pg) ∧ W1.cell? ⟨wr.heap.size, 1, none⟩ = some (.slice a2 M c2) := ⟨blk_c kk rfl, blk_c kk rfl⟩
          have S00 : W1.drew.cell? ⟨wr.heap.size, 0, none⟩ = some (.int .i64 pg) ∧ W1.drew.cell? ⟨wr.heap.size, 1, none⟩ = some (.slice a2 M c2) := S0
          have K0 : Hid (Calls Tryd.prog 39 #[.agg #[.int .i64 pg, .slice a2 M c2]] W1.drew fun e w' => e = .returned (.bool lb) ∧ Hid (Below w.heap.size w w') ∧ w'.cell? ⟨wr.heap.size, 0, none⟩ = some (.int .i64 pg) ∧ w'.cell? ⟨wr.heap.size, 1, none⟩ = some (.slice a2 M c2)) := by
            refine Calls.mono KM ?_
            rintro e w' ⟨h1, h2⟩
            have b9 := bw_tr bD h2
            have kk9 := kept_b kk (lt_of_blk kk) b9
            exact ⟨h1, bw_tr (unhide BB) b9, ⟨blk_c kk9 rfl, blk_c kk9 rfl⟩⟩
          clear hW1 bl kk KM bD
          go_upto_region 6 with fail
          rw [← unhide HW]
          clear HW f0 f1
          refine wp_region_held_drew (S := fun w' : World => w'.cell? ⟨wr.heap.size, 0, none⟩ = some (.int .i64 pg) ∧ w'.cell? ⟨wr.heap.size, 1, none⟩ = some (.slice a2 M c2)) (by kernel_rfl) S0 (fun hHeld => ?_)
          refine wpAnyH_take (i := 0) (oi := { dst := some 15, op := Op.move (Operand.tmp 3), type := 3, pos := "logs.go:16", after := #[], guard := none }) (v := ?v0n) rfl (by kernel_rfl) (by kernel_rfl) (by kernel_rfl) (fun _ _ _ h => h) (Or.inl ⟨by rfl, ?hy0n⟩) (by exact hHeld) ?_
          case hy0n => (intro w hSw; (try dsimp only at hSw); go_simp; try (with_reducible rfl))
          try simp only [Act.put, List.setIfInBounds_toArray, List.set_cons_zero, List.set_cons_succ]
          refine wpAnyH_take (i := 1) (oi := { dst := some 16, op := Op.binOp BinOp.gtr 3 (Operand.tmp 15) (Operand.const (Value.int IntKind.i64 0)) 3, type := 4, pos := "logs.go:16", after := #[{ on := 0, ground := Ground.data }], guard := none }) (v := ?v1n) rfl (by kernel_rfl) (by kernel_rfl) (by kernel_rfl) (fun _ _ _ h => h) (Or.inl ⟨by rfl, ?hy1n⟩) (by exact hHeld) ?_
          case hy1n => (intro w hSw; (try dsimp only at hSw); go_simp; try (with_reducible rfl))
          try simp only [Act.put, List.setIfInBounds_toArray, List.set_cons_zero, List.set_cons_succ]
          refine wpAnyH_take (i := 2) (oi := { dst := some 17, op := Op.move (Operand.tmp 16), type := 4, pos := "logs.go:16", after := #[{ on := 1, ground := Ground.data }], guard := none }) (v := ?v2n) rfl (by kernel_rfl) (by kernel_rfl) (by kernel_rfl) (fun _ _ _ h => h) (Or.inl ⟨by rfl, ?hy2n⟩) (by exact hHeld) ?_
          case hy2n => (intro w hSw; (try dsimp only at hSw); go_simp; try (with_reducible rfl))
          try simp only [Act.put, List.setIfInBounds_toArray, List.set_cons_zero, List.set_cons_succ]
          refine wpAnyH_take (i := 3) (oi := { dst := some 18, op := Op.move (Operand.tmp 0), type := 22, pos := "logs.go:16", after := #[{ on := 2, ground := Ground.guard }], guard := some (2, true) }) (v := undef) rfl (by kernel_rfl) (by kernel_rfl) (by kernel_rfl) (fun _ _ _ h => h) (Or.inr ⟨by rfl, rfl⟩) (by exact hHeld) ?_
          try simp only [Act.put, List.setIfInBounds_toArray, List.set_cons_zero, List.set_cons_succ]
          refine wpAnyH_take (i := 4) (oi := { dst := some 19, op := Op.move (Operand.tmp 3), type := 3, pos := "logs.go:16", after := #[{ on := 2, ground := Ground.guard }], guard := some (2, true) }) (v := undef) rfl (by kernel_rfl) (by kernel_rfl) (by kernel_rfl) (fun _ _ _ h => h) (Or.inr ⟨by rfl, rfl⟩) (by exact hHeld) ?_
          try simp only [Act.put, List.setIfInBounds_toArray, List.set_cons_zero, List.set_cons_succ]
          refine wpAnyH_take (i := 5) (oi := { dst := some 20, op := Op.binOp BinOp.sub 3 (Operand.tmp 19) (Operand.const (Value.int IntKind.i64 1)) 3, type := 3, pos := "logs.go:16", after := #[{ on := 4, ground := Ground.data }, { on := 2, ground := Ground.guard }], guard := some (2, true) }) (v := undef) rfl (by kernel_rfl) (by kernel_rfl) (by kernel_rfl) (fun _ _ _ h => h) (Or.inr ⟨by rfl, rfl⟩) (by exact hHeld) ?_
          try simp only [Act.put, List.setIfInBounds_toArray, List.set_cons_zero, List.set_cons_succ]
          refine wpAnyH_take (i := 6) (oi := { dst := some 21, op := Op.indexAddr 22 (Operand.tmp 18) (Operand.tmp 20), type := 0, pos := "logs.go:16", after := #[{ on := 3, ground := Ground.data }, { on := 5, ground := Ground.data }, { on := 2, ground := Ground.guard }], guard := some (2, true) }) (v := undef) rfl (by kernel_rfl) (by kernel_rfl) (by kernel_rfl) (fun _ _ _ h => h) (Or.inr ⟨by rfl, rfl⟩) (by exact hHeld) ?_
          try simp only [Act.put, List.setIfInBounds_toArray, List.set_cons_zero, List.set_cons_succ]
          refine wpAnyH_take (i := 7) (oi := { dst := some 22, op := Op.fieldAddr 46 (Operand.tmp 21) 0, type := 0, pos := "logs.go:16", after := #[{ on := 6, ground := Ground.data }, { on := 2, ground := Ground.guard }], guard := some (2, true) }) (v := undef) rfl (by kernel_rfl) (by kernel_rfl) (by kernel_rfl) (fun _ _ _ h => h) (Or.inr ⟨by rfl, rfl⟩) (by exact hHeld) ?_
          try simp only [Act.put, List.setIfInBounds_toArray, List.set_cons_zero, List.set_cons_succ]
          refine wpAnyH_take (i := 8) (oi := { dst := some 23, op := Op.load 3 (Operand.tmp 22), type := 3, pos := "logs.go:16", after := #[{ on := 7, ground := Ground.data }, { on := 2, ground := Ground.guard }], guard := some (2, true) }) (v := undef) rfl (by kernel_rfl) (by kernel_rfl) (by kernel_rfl) (fun _ _ _ h => h) (Or.inr ⟨by rfl, rfl⟩) (by exact hHeld) ?_
          try simp only [Act.put, List.setIfInBounds_toArray, List.set_cons_zero, List.set_cons_succ]
          refine wpAnyH_take (i := 9) (oi := { dst := some 24, op := Op.fieldAddr 46 (Operand.tmp 4) 0, type := 0, pos := "logs.go:16", after := #[{ on := 2, ground := Ground.guard }], guard := some (2, true) }) (v := undef) rfl (by kernel_rfl) (by kernel_rfl) (by kernel_rfl) (fun _ _ _ h => h) (Or.inr ⟨by rfl, rfl⟩) (by exact hHeld) ?_
          try simp only [Act.put, List.setIfInBounds_toArray, List.set_cons_zero, List.set_cons_succ]
          refine wpAnyH_take (i := 10) (oi := { dst := some 25, op := Op.load 3 (Operand.tmp 24), type := 3, pos := "logs.go:16", after := #[{ on := 9, ground := Ground.data }, { on := 2, ground := Ground.guard }], guard := some (2, true) }) (v := undef) rfl (by kernel_rfl) (by kernel_rfl) (by kernel_rfl) (fun _ _ _ h => h) (Or.inr ⟨by rfl, rfl⟩) (by exact hHeld) ?_
          try simp only [Act.put, List.setIfInBounds_toArray, List.set_cons_zero, List.set_cons_succ]
          refine wpAnyH_take (i := 11) (oi := { dst := some 26, op := Op.binOp BinOp.geq 3 (Operand.tmp 23) (Operand.tmp 25) 3, type := 4, pos := "logs.go:16", after := #[{ on := 8, ground := Ground.data }, { on := 10, ground := Ground.data }, { on := 2, ground := Ground.guard }], guard := some (2, true) }) (v := undef) rfl (by kernel_rfl) (by kernel_rfl) (by kernel_rfl) (fun _ _ _ h => h) (Or.inr ⟨by rfl, rfl⟩) (by exact hHeld) ?_
          try simp only [Act.put, List.setIfInBounds_toArray, List.set_cons_zero, List.set_cons_succ]
          refine wpAnyH_take (i := 12) (oi := { dst := some 27, op := Op.pick (Operand.tmp 17) (Operand.tmp 26) (Operand.const (Value.bool false)), type := 4, pos := "logs.go:16", after := #[{ on := 2, ground := Ground.data }, { on := 11, ground := Ground.data }], guard := none }) (v := ?v12n) rfl (by kernel_rfl) (by kernel_rfl) (by kernel_rfl) (fun _ _ _ h => h) (Or.inl ⟨by rfl, ?hy12n⟩) (by exact hHeld) ?_
          case hy12n => (intro w hSw; (try dsimp only at hSw); go_simp; try (with_reducible rfl))
          try simp only [Act.put, List.setIfInBounds_toArray, List.set_cons_zero, List.set_cons_succ]
          refine wpAnyH_take (i := 13) (oi := { dst := some 28, op := Op.move (Operand.tmp 27), type := 4, pos := "logs.go:16", after := #[{ on := 12, ground := Ground.data }, { on := 2, ground := Ground.chain }], guard := none }) (v := ?v13n) rfl (by kernel_rfl) (by kernel_rfl) (by kernel_rfl) (fun _ _ _ h => h) (Or.inl ⟨by rfl, ?hy13n⟩) (by exact hHeld) ?_
          case hy13n => (intro w hSw; (try dsimp only at hSw); go_simp; try (with_reducible rfl))
          try simp only [Act.put, List.setIfInBounds_toArray, List.set_cons_zero, List.set_cons_succ]
          refine wpAnyH_take (i := 14) (oi := { dst := some 29, op := Op.load 46 (Operand.tmp 4), type := 46, pos := "logs.go:16", after := #[{ on := 13, ground := Ground.guard }], guard := some (13, false) }) (v := ?v14n) rfl (by kernel_rfl) (by kernel_rfl) (by kernel_rfl) (fun _ _ _ h => h) (Or.inl ⟨by rfl, ?hy14n⟩) (by exact hHeld) ?_
          case hy14n => (intro w hSw; (try dsimp only at hSw); go_simp; try (with_reducible rfl))
          try simp only [Act.put, List.setIfInBounds_toArray, List.set_cons_zero, List.set_cons_succ]
          refine wpAnyH_ready (rs := [15]) (by kernel_rfl) (by simp) ?_
          refine AllReadyH.cons (o := { dst := some 30, op := Op.call { callee := Callee.value (Operand.func 39), args := #[Operand.tmp 29], argTypes := #[46] }, type := 4, pos := "logs.go:16", after := #[{ on := 14, ground := Ground.data }, { on := 13, ground := Ground.chain }, { on := 13, ground := Ground.guard }], guard := some (13, false) }) rfl (fun K hK => ?_) AllReadyH.nil
          go_simp
          go_at_call 39
          refine (unhide K0).mono ?_
          rintro e z1 ⟨rfl, B1, S1⟩
          go_wp2_with fail
          refine hK.out _ _ S1 (fun _ => ?_)
          clear hK K
          try simp only [Act.put, List.setIfInBounds_toArray, List.set_cons_zero, List.set_cons_succ]
          refine wpAnyH_take (i := 16) (oi := { dst := some 31, op := Op.unOp UnOp.not 4 (Operand.tmp 30), type := 4, pos := "logs.go:16", after := #[{ on := 15, ground := Ground.data }, { on := 13, ground := Ground.guard }], guard := some (13, false) }) (v := ?v16n) rfl (by kernel_rfl) (by kernel_rfl) (by kernel_rfl) (fun _ _ _ h => h) (Or.inl ⟨by rfl, ?hy16n⟩) (by exact S1) ?_
          case hy16n => (intro w hSw; (try dsimp only at hSw); go_simp; try (with_reducible rfl))
          try simp only [Act.put, List.setIfInBounds_toArray, List.set_cons_zero, List.set_cons_succ]
          refine wpAnyH_take (i := 17) (oi := { dst := some 32, op := Op.pick (Operand.tmp 28) (Operand.const (Value.bool true)) (Operand.tmp 31), type := 4, pos := "logs.go:16", after := #[{ on := 13, ground := Ground.data }, { on := 16, ground := Ground.data }], guard := none }) (v := ?v17n) rfl (by kernel_rfl) (by kernel_rfl) (by kernel_rfl) (fun _ _ _ h => h) (Or.inl ⟨by rfl, ?hy17n⟩) (by exact S1) ?_
          case hy17n => (intro w hSw; (try dsimp only at hSw); go_simp; try (with_reducible rfl))
          try simp only [Act.put, List.setIfInBounds_toArray, List.set_cons_zero, List.set_cons_succ]
          refine wpAnyH_done (by kernel_rfl) ?_ _
          clear S0 S00 S1 K0
          cases lb with
            | true =>
              go_wp2_with fail
              go_roundw
              case rel => exact ⟨i + 1, by omega, by go_num, unhide B1, unhide HNX (by trivial)⟩
              case measure => simp only [intOf]; omega
            | false =>
              go_wp2_with fail
              go_ret
              exact ⟨by rw [unhide HBD (by trivial)]; rfl, unhide B1⟩
        · obtain ⟨q, hq⟩ : ∃ q, l[i - 1]? = some q := ⟨_, List.getElem?_eq_getElem (by omega)⟩
          obtain ⟨gb', o', e', cv', hcv', d0', d1'⟩ := h.get hq
          cases e'
          obtain ⟨qg, hqg⟩ : ∃ z, z = q.1 := ⟨_, rfl⟩
          rw [← hqg] at d0'
          obtain ⟨i', hi'⟩ : ∃ z, z = i - 1 := ⟨_, rfl⟩
          rw [← hi'] at d0' hq
          have f2 : wr.cell? ⟨gb, o + i' * 2, none⟩ = some (.int .i64 qg) := by rw [(unhide HR).1.cell (lt_of_cell d0')]; exact d0'
          have f2' : W1.cell? ⟨gb, o + i' * 2, none⟩ = some (.int .i64 qg) := by rw [bl.cell (lt_of_cell f2)]; exact f2
          have v1 : (i : Int) - 1 = (i' : Int) := by omega
          have hw2 : IntKind.i64.wrap (i' : Int) = (i' : Int) := by rw [IntKind.wrap_i64]; omega
          have v2 : (i' : Int) < (N : Int) := by omega
          have v3 : (0 : Int) ≤ (i' : Int) := by omega
          have v4 : (0 : Int) < (i : Int) := by omega
          have v7 : decide (0 < i) = true := decide_eq_true (by omega)
          have v8 : 0 < i := by omega
          by_cases hqp : qg < pg
          · have HNX : Hid (lb = true → ∀ j, j < i + 1 → okL l j) := fun z => unhide HOK z (fun q' i'' e hq' => by
              obtain rfl : i'' = i' := by omega
              rw [hq] at hq'; cases hq'
              rw [← hqg, ← hpg]; exact hqp)
            have v5 : ¬ pg ≤ qg := by omega
            have v6 : decide (pg ≤ qg) = false := decide_eq_false v5
            clear h hN hr hT hp d0 d1 hpg d0' d1' hcv' hq hqg hi' hi0 HOK HR HB hqp
            have S0 : W1.cell? ⟨wr.heap.size, 0, none⟩ = some (.int .i64 pg) ∧ W1.cell? ⟨wr.heap.size, 1, none⟩ = some (.slice a2 M c2) ∧ W1.cell? ⟨gb, o + i' * 2, none⟩ = some (.int .i64 qg) := ⟨blk_c kk rfl, blk_c kk rfl, f2'⟩
            have S00 : W1.drew.cell? ⟨wr.heap.size, 0, none⟩ = some (.int .i64 pg) ∧ W1.drew.cell? ⟨wr.heap.size, 1, none⟩ = some (.slice a2 M c2) ∧ W1.drew.cell? ⟨gb, o + i' * 2, none⟩ = some (.int .i64 qg) := S0
            have K0 : Hid (Calls Tryd.prog 39 #[.agg #[.int .i64 pg, .slice a2 M c2]] W1.drew fun e w' => e = .returned (.bool lb) ∧ Hid (Below w.heap.size w w') ∧ w'.cell? ⟨wr.heap.size, 0, none⟩ = some (.int .i64 pg) ∧ w'.cell? ⟨wr.heap.size, 1, none⟩ = some (.slice a2 M c2) ∧ w'.cell? ⟨gb, o + i' * 2, none⟩ = some (.int .i64 qg)) := by
              refine Calls.mono KM ?_
              rintro e w' ⟨h1, h2⟩
              have b9 := bw_tr bD h2
              have kk9 := kept_b kk (lt_of_blk kk) b9
              exact ⟨h1, bw_tr (unhide BB) b9, ⟨blk_c kk9 rfl, blk_c kk9 rfl, by rw [b9.cell (lt_of_cell f2')]; exact f2'⟩⟩
            clear hW1 bl kk KM bD f2'
            go_upto_region 6 with fail
            rw [← unhide HW]
            clear HW f0 f1 f2
            refine wp_region_held_drew (S := fun w' : World => w'.cell? ⟨wr.heap.size, 0, none⟩ = some (.int .i64 pg) ∧ w'.cell? ⟨wr.heap.size, 1, none⟩ = some (.slice a2 M c2) ∧ w'.cell? ⟨gb, o + i' * 2, none⟩ = some (.int .i64 qg)) (by kernel_rfl) S0 (fun hHeld => ?_)
            refine wpAnyH_take (i := 0) (oi := { dst := some 15, op := Op.move (Operand.tmp 3), type := 3, pos := "logs.go:16", after := #[], guard := none }) (v := ?v0p) rfl (by kernel_rfl) (by kernel_rfl) (by kernel_rfl) (fun _ _ _ h => h) (Or.inl ⟨by rfl, ?hy0p⟩) (by exact hHeld) ?_
            case hy0p => (intro w hSw; (try dsimp only at hSw); go_simp; try (with_reducible rfl))
            try simp only [Act.put, List.setIfInBounds_toArray, List.set_cons_zero, List.set_cons_succ]
            refine wpAnyH_take (i := 1) (oi := { dst := some 16, op := Op.binOp BinOp.gtr 3 (Operand.tmp 15) (Operand.const (Value.int IntKind.i64 0)) 3, type := 4, pos := "logs.go:16", after := #[{ on := 0, ground := Ground.data }], guard := none }) (v := ?v1p) rfl (by kernel_rfl) (by kernel_rfl) (by kernel_rfl) (fun _ _ _ h => h) (Or.inl ⟨by rfl, ?hy1p⟩) (by exact hHeld) ?_
            case hy1p => (intro w hSw; (try dsimp only at hSw); go_simp; try (with_reducible rfl))
            try simp only [Act.put, List.setIfInBounds_toArray, List.set_cons_zero, List.set_cons_succ]
            refine wpAnyH_take (i := 2) (oi := { dst := some 17, op := Op.move (Operand.tmp 16), type := 4, pos := "logs.go:16", after := #[{ on := 1, ground := Ground.data }], guard := none }) (v := ?v2p) rfl (by kernel_rfl) (by kernel_rfl) (by kernel_rfl) (fun _ _ _ h => h) (Or.inl ⟨by rfl, ?hy2p⟩) (by exact hHeld) ?_
            case hy2p => (intro w hSw; (try dsimp only at hSw); go_simp; try (with_reducible rfl))
            try simp only [Act.put, List.setIfInBounds_toArray, List.set_cons_zero, List.set_cons_succ]
            refine wpAnyH_take (i := 3) (oi := { dst := some 18, op := Op.move (Operand.tmp 0), type := 22, pos := "logs.go:16", after := #[{ on := 2, ground := Ground.guard }], guard := some (2, true) }) (v := ?v3p) rfl (by kernel_rfl) (by kernel_rfl) (by kernel_rfl) (fun _ _ _ h => h) (Or.inl ⟨by rfl, ?hy3p⟩) (by exact hHeld) ?_
            case hy3p => (intro w hSw; (try dsimp only at hSw); go_simp; try (with_reducible rfl))
            try simp only [Act.put, List.setIfInBounds_toArray, List.set_cons_zero, List.set_cons_succ]
            refine wpAnyH_take (i := 4) (oi := { dst := some 19, op := Op.move (Operand.tmp 3), type := 3, pos := "logs.go:16", after := #[{ on := 2, ground := Ground.guard }], guard := some (2, true) }) (v := ?v4p) rfl (by kernel_rfl) (by kernel_rfl) (by kernel_rfl) (fun _ _ _ h => h) (Or.inl ⟨by rfl, ?hy4p⟩) (by exact hHeld) ?_
            case hy4p => (intro w hSw; (try dsimp only at hSw); go_simp; try (with_reducible rfl))
            try simp only [Act.put, List.setIfInBounds_toArray, List.set_cons_zero, List.set_cons_succ]
            refine wpAnyH_take (i := 5) (oi := { dst := some 20, op := Op.binOp BinOp.sub 3 (Operand.tmp 19) (Operand.const (Value.int IntKind.i64 1)) 3, type := 3, pos := "logs.go:16", after := #[{ on := 4, ground := Ground.data }, { on := 2, ground := Ground.guard }], guard := some (2, true) }) (v := ?v5p) rfl (by kernel_rfl) (by kernel_rfl) (by kernel_rfl) (fun _ _ _ h => h) (Or.inl ⟨by rfl, ?hy5p⟩) (by exact hHeld) ?_
            case hy5p => (intro w hSw; (try dsimp only at hSw); go_simp; try (with_reducible rfl))
            try simp only [Act.put, List.setIfInBounds_toArray, List.set_cons_zero, List.set_cons_succ]
            refine wpAnyH_take (i := 6) (oi := { dst := some 21, op := Op.indexAddr 22 (Operand.tmp 18) (Operand.tmp 20), type := 0, pos := "logs.go:16", after := #[{ on := 3, ground := Ground.data }, { on := 5, ground := Ground.data }, { on := 2, ground := Ground.guard }], guard := some (2, true) }) (v := ?v6p) rfl (by kernel_rfl) (by kernel_rfl) (by kernel_rfl) (fun _ _ _ h => h) (Or.inl ⟨by rfl, ?hy6p⟩) (by exact hHeld) ?_
            case hy6p => (intro w hSw; (try dsimp only at hSw); go_simp; try (with_reducible rfl))
            try simp only [Act.put, List.setIfInBounds_toArray, List.set_cons_zero, List.set_cons_succ]
            refine wpAnyH_take (i := 7) (oi := { dst := some 22, op := Op.fieldAddr 46 (Operand.tmp 21) 0, type := 0, pos := "logs.go:16", after := #[{ on := 6, ground := Ground.data }, { on := 2, ground := Ground.guard }], guard := some (2, true) }) (v := ?v7p) rfl (by kernel_rfl) (by kernel_rfl) (by kernel_rfl) (fun _ _ _ h => h) (Or.inl ⟨by rfl, ?hy7p⟩) (by exact hHeld) ?_
            case hy7p => (intro w hSw; (try dsimp only at hSw); go_simp; try (with_reducible rfl))
            try simp only [Act.put, List.setIfInBounds_toArray, List.set_cons_zero, List.set_cons_succ]
            refine wpAnyH_take (i := 8) (oi := { dst := some 23, op := Op.load 3 (Operand.tmp 22), type := 3, pos := "logs.go:16", after := #[{ on := 7, ground := Ground.data }, { on := 2, ground := Ground.guard }], guard := some (2, true) }) (v := ?v8p) rfl (by kernel_rfl) (by kernel_rfl) (by kernel_rfl) (fun _ _ _ h => h) (Or.inl ⟨by rfl, ?hy8p⟩) (by exact hHeld) ?_
            case hy8p => (intro w hSw; (try dsimp only at hSw); go_simp; try (with_reducible rfl))
            try simp only [Act.put, List.setIfInBounds_toArray, List.set_cons_zero, List.set_cons_succ]
            refine wpAnyH_take (i := 9) (oi := { dst := some 24, op := Op.fieldAddr 46 (Operand.tmp 4) 0, type := 0, pos := "logs.go:16", after := #[{ on := 2, ground := Ground.guard }], guard := some (2, true) }) (v := ?v9p) rfl (by kernel_rfl) (by kernel_rfl) (by kernel_rfl) (fun _ _ _ h => h) (Or.inl ⟨by rfl, ?hy9p⟩) (by exact hHeld) ?_
            case hy9p => (intro w hSw; (try dsimp only at hSw); go_simp; try (with_reducible rfl))
            try simp only [Act.put, List.setIfInBounds_toArray, List.set_cons_zero, List.set_cons_succ]
            refine wpAnyH_take (i := 10) (oi := { dst := some 25, op := Op.load 3 (Operand.tmp 24), type := 3, pos := "logs.go:16", after := #[{ on := 9, ground := Ground.data }, { on := 2, ground := Ground.guard }], guard := some (2, true) }) (v := ?v10p) rfl (by kernel_rfl) (by kernel_rfl) (by kernel_rfl) (fun _ _ _ h => h) (Or.inl ⟨by rfl, ?hy10p⟩) (by exact hHeld) ?_
            case hy10p => (intro w hSw; (try dsimp only at hSw); go_simp; try (with_reducible rfl))
            try simp only [Act.put, List.setIfInBounds_toArray, List.set_cons_zero, List.set_cons_succ]
            refine wpAnyH_take (i := 11) (oi := { dst := some 26, op := Op.binOp BinOp.geq 3 (Operand.tmp 23) (Operand.tmp 25) 3, type := 4, pos := "logs.go:16", after := #[{ on := 8, ground := Ground.data }, { on := 10, ground := Ground.data }, { on := 2, ground := Ground.guard }], guard := some (2, true) }) (v := ?v11p) rfl (by kernel_rfl) (by kernel_rfl) (by kernel_rfl) (fun _ _ _ h => h) (Or.inl ⟨by rfl, ?hy11p⟩) (by exact hHeld) ?_
            case hy11p => (intro w hSw; (try dsimp only at hSw); go_simp; try (with_reducible rfl))
            try simp only [Act.put, List.setIfInBounds_toArray, List.set_cons_zero, List.set_cons_succ]
            refine wpAnyH_take (i := 12) (oi := { dst := some 27, op := Op.pick (Operand.tmp 17) (Operand.tmp 26) (Operand.const (Value.bool false)), type := 4, pos := "logs.go:16", after := #[{ on := 2, ground := Ground.data }, { on := 11, ground := Ground.data }], guard := none }) (v := ?v12p) rfl (by kernel_rfl) (by kernel_rfl) (by kernel_rfl) (fun _ _ _ h => h) (Or.inl ⟨by rfl, ?hy12p⟩) (by exact hHeld) ?_
            case hy12p => (intro w hSw; (try dsimp only at hSw); go_simp; try (with_reducible rfl))
            try simp only [Act.put, List.setIfInBounds_toArray, List.set_cons_zero, List.set_cons_succ]
            refine wpAnyH_take (i := 13) (oi := { dst := some 28, op := Op.move (Operand.tmp 27), type := 4, pos := "logs.go:16", after := #[{ on := 12, ground := Ground.data }, { on := 2, ground := Ground.chain }], guard := none }) (v := ?v13p) rfl (by kernel_rfl) (by kernel_rfl) (by kernel_rfl) (fun _ _ _ h => h) (Or.inl ⟨by rfl, ?hy13p⟩) (by exact hHeld) ?_
            case hy13p => (intro w hSw; (try dsimp only at hSw); go_simp; try (with_reducible rfl))
            try simp only [Act.put, List.setIfInBounds_toArray, List.set_cons_zero, List.set_cons_succ]
            refine wpAnyH_take (i := 14) (oi := { dst := some 29, op := Op.load 46 (Operand.tmp 4), type := 46, pos := "logs.go:16", after := #[{ on := 13, ground := Ground.guard }], guard := some (13, false) }) (v := ?v14p) rfl (by kernel_rfl) (by kernel_rfl) (by kernel_rfl) (fun _ _ _ h => h) (Or.inl ⟨by rfl, ?hy14p⟩) (by exact hHeld) ?_
            case hy14p => (intro w hSw; (try dsimp only at hSw); go_simp; try (with_reducible rfl))
            try simp only [Act.put, List.setIfInBounds_toArray, List.set_cons_zero, List.set_cons_succ]
            refine wpAnyH_ready (rs := [15]) (by kernel_rfl) (by simp) ?_
            refine AllReadyH.cons (o := { dst := some 30, op := Op.call { callee := Callee.value (Operand.func 39), args := #[Operand.tmp 29], argTypes := #[46] }, type := 4, pos := "logs.go:16", after := #[{ on := 14, ground := Ground.data }, { on := 13, ground := Ground.chain }, { on := 13, ground := Ground.guard }], guard := some (13, false) }) rfl (fun K hK => ?_) AllReadyH.nil
            go_simp
            go_at_call 39
            refine (unhide K0).mono ?_
            rintro e z1 ⟨rfl, B1, S1⟩
            go_wp2_with fail
            refine hK.out _ _ S1 (fun _ => ?_)
            clear hK K
            try simp only [Act.put, List.setIfInBounds_toArray, List.set_cons_zero, List.set_cons_succ]
            refine wpAnyH_take (i := 16) (oi := { dst := some 31, op := Op.unOp UnOp.not 4 (Operand.tmp 30), type := 4, pos := "logs.go:16", after := #[{ on := 15, ground := Ground.data }, { on := 13, ground := Ground.guard }], guard := some (13, false) }) (v := ?v16p) rfl (by kernel_rfl) (by kernel_rfl) (by kernel_rfl) (fun _ _ _ h => h) (Or.inl ⟨by rfl, ?hy16p⟩) (by exact S1) ?_
            case hy16p => (intro w hSw; (try dsimp only at hSw); go_simp; try (with_reducible rfl))
            try simp only [Act.put, List.setIfInBounds_toArray, List.set_cons_zero, List.set_cons_succ]
            refine wpAnyH_take (i := 17) (oi := { dst := some 32, op := Op.pick (Operand.tmp 28) (Operand.const (Value.bool true)) (Operand.tmp 31), type := 4, pos := "logs.go:16", after := #[{ on := 13, ground := Ground.data }, { on := 16, ground := Ground.data }], guard := none }) (v := ?v17p) rfl (by kernel_rfl) (by kernel_rfl) (by kernel_rfl) (fun _ _ _ h => h) (Or.inl ⟨by rfl, ?hy17p⟩) (by exact S1) ?_
            case hy17p => (intro w hSw; (try dsimp only at hSw); go_simp; try (with_reducible rfl))
            try simp only [Act.put, List.setIfInBounds_toArray, List.set_cons_zero, List.set_cons_succ]
            refine wpAnyH_done (by kernel_rfl) ?_ _
            clear S0 S00 S1 K0
            cases lb with
              | true =>
                go_wp2_with fail
                go_roundw
                case rel => exact ⟨i + 1, by omega, by go_num, unhide B1, unhide HNX (by trivial)⟩
                case measure => simp only [intOf]; omega
              | false =>
                go_wp2_with fail
                go_ret
                exact ⟨by rw [unhide HBD (by trivial)]; rfl, unhide B1⟩
          · have HR1 : Hid (r = false) := unhide HB i hlt (fun ho => by
              have := (ho p hp).2 q i' (by omega) hq
              rw [← hqg, ← hpg] at this
              exact hqp this)
            have v5 : pg ≤ qg := by omega
            have v6 : decide (pg ≤ qg) = true := decide_eq_true v5
            have s0 : W1.cell? ⟨wr.heap.size, 0, none⟩ = some (.int .i64 pg) := blk_c kk rfl
            have s1 : W1.cell? ⟨wr.heap.size, 1, none⟩ = some (.slice a2 M c2) := blk_c kk rfl
            clear h hN hr hT hp d0 d1 hpg d0' d1' hcv' hq hqg hi' hi0 HOK HR HB hqp KM bD hW1 bl kk HBD
            go_upto_region 6 with fail
            rw [← unhide HW]
            clear HW f0 f1 f2
            go_quiet (fail)
            go_wp2_with fail
            go_ret
            exact ⟨by rw [unhide HR1]; rfl, below_drewN (unhide BB) _⟩
      · obtain rfl : i = N := by omega
        have HR1 := hide (unhide HE (unhide HR).2)
        have BB := hide (unhide HR).1
        clear HE HB HR HH
        go_wp2_with fail
        go_ret
        exact ⟨by rw [unhide HR1]; rfl, unhide BB⟩
  · have h17 : (16 : Int) < (N : Int) := by omega
    have HR : Hid (r = false) := by
      unfold Hid
      rw [hr]
      cases hq : chkB l with
      | false => rfl
      | true => exact absurd (chk_iff.1 hq).1 (by omega)
    clear h hN hl hr hT HH h16
    go_enter Tryd.func20, Tryd.ntmps20
    go_wp2_with fail
    go_ret
    exact ⟨by rw [unhide HR]; rfl, Below.refl _ _⟩
set_option maxHeartbeats 1000000 in
theorem lgCheck_any {w : World} {v : Value} {l : List Lg} (h : Lgs w v l) (hT : Tab w) :
    Calls Tryd.prog 13 #[v] w fun e w' => e = .returned (.int .i64 (if chkB l = true then 0 else 1)) ∧ Below w.heap.size w w' := by
  have K := mayBeL_any h hT
  obtain ⟨a, cap, rfl⟩ := h.slice
  generalize chkB l = r at *
  clear h hT
  go_enter Tryd.func13, Tryd.ntmps13
  go_wp2_with fail
  refine K.mono ?_
  rintro e w1 ⟨rfl, b1⟩
  cases r
  · go_wp2
    go_ret
    exact ⟨rfl, b1⟩
  · go_wp2
    go_ret
    exact ⟨rfl, b1⟩
end Go.Proofs.YthlbdajnkdkocaaDoor
