/- Texts joined: LgRc LgRd. -/
import Derived.Test.YtnfhbmlmemifjaaGreatDoorZ25
/- The document's Check of logs, walked. -/
namespace Go.Proofs.YtnfhbmlmemifjaaGreatDoor
open Go.RowKit Go.Maps
set_option maxRecDepth 100000 in
set_option maxHeartbeats 8000000 in
theorem rchk_any {w : World} {v : Value} {l : List Lg} (h : Lgs w v l) :
    Calls Tryz.prog 15 #[v] w fun e w' => e = .returned (.int .i64 (if chkB l = true then 0 else 1)) ∧ Below w.heap.size w w' := by
  obtain ⟨a, cap, rfl⟩ := h.slice
  have hl := h.len
  obtain ⟨N, hN⟩ : ∃ N, N = l.length := ⟨_, rfl⟩
  rw [← hN] at h hl ⊢
  have hNI : (N : Int) ≤ 140737488355328 := by omega
  obtain ⟨r, hr⟩ : ∃ r : Int, r = if chkB l = true then 0 else 1 := ⟨_, rfl⟩
  rw [← hr]
  have HH := hide (And.intro h (And.intro hN hr))
  by_cases h16 : N ≤ 16
  · have h16I : (N : Int) ≤ 16 := by omega
    have HE : Hid ((∀ j, j < N → okL l j) → r = 0) := fun q => by rw [hr, if_pos (chk_iff.2 ⟨by omega, fun j hj => q j (by omega)⟩)]
    clear h hN hl hr
    go_enter Tryz.func15, Tryz.ntmps15
    go_wp2_with fail
    go_loopw [3] (fun iv wr => ∃ i : Nat, i ≤ N ∧ iv = .int .i64 (i : Int) ∧ Hid (Below w.heap.size w wr ∧ ∀ j, j < i → okL l j)) (fun iv _ => (N - intOf iv).toNat)
    case atStart => exact ⟨0, Nat.zero_le _, rfl, Below.refl _ _, fun j hj => absurd hj (by omega)⟩
    case round =>
      obtain ⟨i, hi, rfl, HR⟩ := hrel
      by_cases hlt : i < N
      · have hiI : (i : Int) < (N : Int) := by omega
        have h0 : (0 : Int) ≤ (i : Int) := by omega
        obtain ⟨h, hN, hr⟩ := unhide HH
        obtain ⟨p, hp⟩ : ∃ p, l[i]? = some p := ⟨_, List.getElem?_eq_getElem (by omega)⟩
        obtain ⟨gb, o, rfl, cv, hcv, d0, d1⟩ := h.get hp
        obtain ⟨a2, c2, hcv2⟩ := hcv.slice
        obtain ⟨pg, hpg⟩ : ∃ z, z = p.1 := ⟨_, rfl⟩
        obtain ⟨M, hM⟩ : ∃ z, z = p.2.length := ⟨_, rfl⟩
        have hMl := hcv.len
        rw [← hM] at hcv2 hMl
        subst hcv2
        rw [← hpg] at d0
        have hMI : (M : Int) ≤ 140737488355328 := by omega
        have HP : Hid (∀ W, Below w.heap.size w W → W.cell? ⟨gb, o + i * 2, none⟩ = some (.int .i64 pg) ∧ W.cell? ⟨gb, o + i * 2 + 1, none⟩ = some (.slice a2 M c2) ∧ Cms W (.slice a2 M c2) p.2) := fun W hW => ⟨by rw [hW.cell (lt_of_cell d0)]; exact d0, by rw [hW.cell (lt_of_cell d1)]; exact d1, hcv.bw hW⟩
        have HPP := hide (And.intro hp hpg)
        have HM := hide hM
        obtain ⟨f0, f1, -⟩ := unhide HP wr (unhide HR).1
        by_cases hz : M = 0
        · have HR1 : Hid (r = 1 ∧ Below w.heap.size w wr) := by
            refine ⟨?_, (unhide HR).1⟩
            rw [hr, if_neg]
            intro hch
            exact (log_iff.1 (((chk_iff.1 hch).2 i (by omega)) p hp).1).1 (by omega)
          clear h hN hr hp hcv d0 d1 hpg hM hMl HP HPP HM HR HE
          subst hz
          go_wp2_with fail
          go_quiet (fail)
          go_wp2_with fail
          go_ret
          exact ⟨by rw [(unhide HR1).1]; rfl, below_drewN (unhide HR1).2 _⟩
        · have hz1 : ¬ (M : Int) = 0 := by omega
          have hz2 : ((M : Int) == 0) = false := by simp [hz]
          by_cases hi0 : i = 0
          · clear h hN hr hp hcv d0 d1 hpg hM hMl
            have i0 : (i : Int) = 0 := by omega
            have HI0 := hide hi0
            clear hi0
            have i1 : decide ((0 : Int) < (i : Int)) = false := decide_eq_false (by omega)
            have i2 : ¬ (0 : Int) < (i : Int) := by omega
            have i3 : decide (0 < i) = false := decide_eq_false (by omega)
            clear i0
            go_wp2_with fail
            go_quiet (fail)
            go_wp2_with fail
            go_loopw [4] (fun kv wq => ∃ k : Nat, k ≤ M ∧ kv = .int .i64 (k : Int) ∧ Hid (Below w.heap.size w wq ∧ ∀ j c, j < k → p.2[j]? = some c → okC p.1 j c)) (fun kv _ => (M - intOf kv).toNat)
            case atStart => exact ⟨0, Nat.zero_le _, rfl, below_drewN (unhide HR).1 _, fun j c hj => absurd hj (by omega)⟩
            case round =>
              rename World => wq
              obtain ⟨k, hk, rfl, HK⟩ := hrel
              obtain ⟨e0, e1, hcw⟩ := unhide HP wq (unhide HK).1
              by_cases hkm : k < M
              · have hkI : (k : Int) < (M : Int) := by omega
                have hk0 : (0 : Int) ≤ (k : Int) := by omega
                obtain ⟨c, hc⟩ : ∃ c, p.2[k]? = some c := ⟨_, List.getElem?_eq_getElem (by have := unhide HM; omega)⟩
                obtain ⟨b', o', rfl, x, hx, hcc⟩ := hcw.get hc
                obtain ⟨a1, k1, x1⟩ := hx.adds.slice
                obtain ⟨a2, k2, x2⟩ := nums_slice hx.rem
                obtain ⟨a3, k3, x3⟩ := hx.seals.slice
                obtain ⟨a4, k4, x4⟩ := hx.joins.slice
                obtain ⟨a5, k5, x5⟩ := hx.next.slice
                obtain ⟨w0, hw0⟩ : ∃ w0, w0 = wq.alloc (.cells (cmC c x).toArray 34) := ⟨_, rfl⟩
                have bl : Below wq.heap.size wq w0 := by rw [hw0]; exact bwA _ _
                have kk : w0.heap[wq.heap.size]? = some (.cells (cmC c x).toArray 34 (0, 0)) := by rw [hw0]; exact heap_alloc_new _ _
                have bD : Below w0.heap.size w0 w0.drew := (Below.refl _ _).drew
                have KM := rmay_any ((hx.bw bl).bw bD)
                obtain ⟨mb, hmb⟩ : ∃ z, z = mayC c := ⟨_, rfl⟩
                obtain ⟨OK, hOK⟩ : ∃ P : Prop, P = okC p.1 k c := ⟨_, rfl⟩
                have HOK : Hid (OK ↔ c.gr = pg ∧ c.ep = (k : Int) ∧ mb = true) := by
                  rw [hOK, (unhide HPP).2, hmb]; exact Iff.rfl
                have HBD : Hid (¬ OK → r = 1) := fun hn => by
                  rw [hOK] at hn
                  obtain ⟨h, hN, hr⟩ := unhide HH
                  rw [hr, if_neg]
                  intro hch
                  exact hn ((log_iff.1 ((((chk_iff.1 hch).2 i (by omega)) p (unhide HPP).1).1)).2 k c hc)
                have HNX : Hid (OK → ∀ j c', j < k + 1 → p.2[j]? = some c' → okC p.1 j c') := fun ho j c' hj hc' => by
                  rw [hOK] at ho
                  rcases Nat.lt_or_ge j k with d | d
                  · exact (unhide HK).2 j c' d hc'
                  · obtain rfl : j = k := by omega
                    rw [hc] at hc'; cases hc'; exact ho
                have BB := hide (bw_tr (unhide HK).1 bl)
                have e0' : w0.cell? ⟨gb, o + i * 2, none⟩ = some (.int .i64 pg) := by rw [bl.cell (lt_of_cell e0)]; exact e0
                have hcc' : ∀ j u, (cmC c x)[j]? = some u → wq.cell? ⟨b', o' + k * 15 + j, none⟩ = some u := hcc
                rw [← hmb] at KM
                clear hmb hOK hc hcc hcw HK
                obtain ⟨g0, g1, g2, g3, g4, g5, adds, rem, seals, joins, g10, g11, next, g13, g14⟩ := c
                obtain ⟨av, rv, qv, jv, nv⟩ := x
                simp only at x1 x2 x3 x4 x5 HOK
                subst x1 x2 x3 x4 x5
                generalize adds.length = LA at *
                generalize rem.length = LR at *
                generalize seals.length = LQ at *
                generalize joins.length = LJ at *
                generalize next.length = LN at *
                have y0 : wq.cell? ⟨b', o' + k * 15, none⟩ = some (.int .i64 g0) := hcc' 0 _ rfl
                have y1 : wq.cell? ⟨b', o' + k * 15 + 1, none⟩ = some (.int .i64 g1) := hcc' 1 _ rfl
                have y2 : wq.cell? ⟨b', o' + k * 15 + 2, none⟩ = some (.int .i64 g2) := hcc' 2 _ rfl
                have y3 : wq.cell? ⟨b', o' + k * 15 + 3, none⟩ = some (.int .i64 g3) := hcc' 3 _ rfl
                have y4 : wq.cell? ⟨b', o' + k * 15 + 4, none⟩ = some (.int .i64 g4) := hcc' 4 _ rfl
                have y5 : wq.cell? ⟨b', o' + k * 15 + 5, none⟩ = some (.bool g5) := hcc' 5 _ rfl
                have y6 : wq.cell? ⟨b', o' + k * 15 + 6, none⟩ = some (.slice a1 LA k1) := hcc' 6 _ rfl
                have y7 : wq.cell? ⟨b', o' + k * 15 + 7, none⟩ = some (.slice a2 LR k2) := hcc' 7 _ rfl
                have y8 : wq.cell? ⟨b', o' + k * 15 + 8, none⟩ = some (.slice a3 LQ k3) := hcc' 8 _ rfl
                have y9 : wq.cell? ⟨b', o' + k * 15 + 9, none⟩ = some (.slice a4 LJ k4) := hcc' 9 _ rfl
                have y10 : wq.cell? ⟨b', o' + k * 15 + 10, none⟩ = some (.int .i64 g10) := hcc' 10 _ rfl
                have y11 : wq.cell? ⟨b', o' + k * 15 + 11, none⟩ = some (.int .i64 g11) := hcc' 11 _ rfl
                have y12 : wq.cell? ⟨b', o' + k * 15 + 12, none⟩ = some (.slice a5 LN k5) := hcc' 12 _ rfl
                have y13 : wq.cell? ⟨b', o' + k * 15 + 13, none⟩ = some (.int .i64 g13) := hcc' 13 _ rfl
                have y14 : wq.cell? ⟨b', o' + k * 15 + 14, none⟩ = some (.int .i64 g14) := hcc' 14 _ rfl
                have S0 : (w0.cell? ⟨wq.heap.size, 0, none⟩ = some (.int .i64 g0) ∧ w0.cell? ⟨wq.heap.size, 1, none⟩ = some (.int .i64 g1) ∧ w0.cell? ⟨wq.heap.size, 2, none⟩ = some (.int .i64 g2) ∧ w0.cell? ⟨wq.heap.size, 3, none⟩ = some (.int .i64 g3) ∧ w0.cell? ⟨wq.heap.size, 4, none⟩ = some (.int .i64 g4) ∧ w0.cell? ⟨wq.heap.size, 5, none⟩ = some (.bool g5) ∧ w0.cell? ⟨wq.heap.size, 6, none⟩ = some (.slice a1 LA k1) ∧ w0.cell? ⟨wq.heap.size, 7, none⟩ = some (.slice a2 LR k2) ∧ w0.cell? ⟨wq.heap.size, 8, none⟩ = some (.slice a3 LQ k3) ∧ w0.cell? ⟨wq.heap.size, 9, none⟩ = some (.slice a4 LJ k4) ∧ w0.cell? ⟨wq.heap.size, 10, none⟩ = some (.int .i64 g10) ∧ w0.cell? ⟨wq.heap.size, 11, none⟩ = some (.int .i64 g11) ∧ w0.cell? ⟨wq.heap.size, 12, none⟩ = some (.slice a5 LN k5) ∧ w0.cell? ⟨wq.heap.size, 13, none⟩ = some (.int .i64 g13) ∧ w0.cell? ⟨wq.heap.size, 14, none⟩ = some (.int .i64 g14)) ∧ w0.cell? ⟨gb, o + i * 2, none⟩ = some (.int .i64 pg) := ⟨⟨blk_c kk rfl, blk_c kk rfl, blk_c kk rfl, blk_c kk rfl, blk_c kk rfl, blk_c kk rfl, blk_c kk rfl, blk_c kk rfl, blk_c kk rfl, blk_c kk rfl, blk_c kk rfl, blk_c kk rfl, blk_c kk rfl, blk_c kk rfl, blk_c kk rfl⟩, e0'⟩
                have S00 : (w0.drew.cell? ⟨wq.heap.size, 0, none⟩ = some (.int .i64 g0) ∧ w0.drew.cell? ⟨wq.heap.size, 1, none⟩ = some (.int .i64 g1) ∧ w0.drew.cell? ⟨wq.heap.size, 2, none⟩ = some (.int .i64 g2) ∧ w0.drew.cell? ⟨wq.heap.size, 3, none⟩ = some (.int .i64 g3) ∧ w0.drew.cell? ⟨wq.heap.size, 4, none⟩ = some (.int .i64 g4) ∧ w0.drew.cell? ⟨wq.heap.size, 5, none⟩ = some (.bool g5) ∧ w0.drew.cell? ⟨wq.heap.size, 6, none⟩ = some (.slice a1 LA k1) ∧ w0.drew.cell? ⟨wq.heap.size, 7, none⟩ = some (.slice a2 LR k2) ∧ w0.drew.cell? ⟨wq.heap.size, 8, none⟩ = some (.slice a3 LQ k3) ∧ w0.drew.cell? ⟨wq.heap.size, 9, none⟩ = some (.slice a4 LJ k4) ∧ w0.drew.cell? ⟨wq.heap.size, 10, none⟩ = some (.int .i64 g10) ∧ w0.drew.cell? ⟨wq.heap.size, 11, none⟩ = some (.int .i64 g11) ∧ w0.drew.cell? ⟨wq.heap.size, 12, none⟩ = some (.slice a5 LN k5) ∧ w0.drew.cell? ⟨wq.heap.size, 13, none⟩ = some (.int .i64 g13) ∧ w0.drew.cell? ⟨wq.heap.size, 14, none⟩ = some (.int .i64 g14)) ∧ w0.drew.cell? ⟨gb, o + i * 2, none⟩ = some (.int .i64 pg) := S0
                have K0 : Hid (Calls Tryz.prog 44 #[.agg #[.int .i64 g0, .int .i64 g1, .int .i64 g2, .int .i64 g3, .int .i64 g4, .bool g5, .slice a1 LA k1, .slice a2 LR k2, .slice a3 LQ k3, .slice a4 LJ k4, .int .i64 g10, .int .i64 g11, .slice a5 LN k5, .int .i64 g13, .int .i64 g14]] w0.drew fun e w' => e = .returned (.bool mb) ∧ Hid (Below w.heap.size w w') ∧ (w'.cell? ⟨wq.heap.size, 0, none⟩ = some (.int .i64 g0) ∧ w'.cell? ⟨wq.heap.size, 1, none⟩ = some (.int .i64 g1) ∧ w'.cell? ⟨wq.heap.size, 2, none⟩ = some (.int .i64 g2) ∧ w'.cell? ⟨wq.heap.size, 3, none⟩ = some (.int .i64 g3) ∧ w'.cell? ⟨wq.heap.size, 4, none⟩ = some (.int .i64 g4) ∧ w'.cell? ⟨wq.heap.size, 5, none⟩ = some (.bool g5) ∧ w'.cell? ⟨wq.heap.size, 6, none⟩ = some (.slice a1 LA k1) ∧ w'.cell? ⟨wq.heap.size, 7, none⟩ = some (.slice a2 LR k2) ∧ w'.cell? ⟨wq.heap.size, 8, none⟩ = some (.slice a3 LQ k3) ∧ w'.cell? ⟨wq.heap.size, 9, none⟩ = some (.slice a4 LJ k4) ∧ w'.cell? ⟨wq.heap.size, 10, none⟩ = some (.int .i64 g10) ∧ w'.cell? ⟨wq.heap.size, 11, none⟩ = some (.int .i64 g11) ∧ w'.cell? ⟨wq.heap.size, 12, none⟩ = some (.slice a5 LN k5) ∧ w'.cell? ⟨wq.heap.size, 13, none⟩ = some (.int .i64 g13) ∧ w'.cell? ⟨wq.heap.size, 14, none⟩ = some (.int .i64 g14)) ∧ w'.cell? ⟨gb, o + i * 2, none⟩ = some (.int .i64 pg)) := by
                  refine Calls.mono KM ?_
                  rintro e w' ⟨h1, h2⟩
                  have b9 := bw_tr bD h2
                  have kk9 := kept_b kk (lt_of_blk kk) b9
                  exact ⟨h1, bw_tr (unhide BB) b9, ⟨blk_c kk9 rfl, blk_c kk9 rfl, blk_c kk9 rfl, blk_c kk9 rfl, blk_c kk9 rfl, blk_c kk9 rfl, blk_c kk9 rfl, blk_c kk9 rfl, blk_c kk9 rfl, blk_c kk9 rfl, blk_c kk9 rfl, blk_c kk9 rfl, blk_c kk9 rfl, blk_c kk9 rfl, blk_c kk9 rfl⟩, by rw [b9.cell (lt_of_cell e0')]; exact e0'⟩
                have HW : Hid (w0 = wq.alloc (.cells #[.int .i64 g0, .int .i64 g1, .int .i64 g2, .int .i64 g3, .int .i64 g4, .bool g5, .slice a1 LA k1, .slice a2 LR k2, .slice a3 LQ k3, .slice a4 LJ k4, .int .i64 g10, .int .i64 g11, .slice a5 LN k5, .int .i64 g13, .int .i64 g14] 34)) := hw0
                clear hw0 bl kk bD KM hx hcc' e0'
                go_wp2_with fail
                rw [← unhide HW]
                clear HW y0 y1 y2 y3 y4 y5 y6 y7 y8 y9 y10 y11 y12 y13 y14
                by_cases z1 : g0 = pg
                · by_cases z2 : g1 = (k : Int)
                  · have HMB : Hid (mb = true → OK) := fun hm => (unhide HOK).2 ⟨z1, z2, hm⟩
                    have HMB2 : Hid (mb = false → r = 1) := fun hm => unhide HBD (fun ho => by have := ((unhide HOK).1 ho).2.2; rw [hm] at this; cases this)
                    clear HOK HBD
                    subst z1 z2
                    go_region_held3 (fun w' : World => (w'.cell? ⟨wq.heap.size, 0, none⟩ = some (.int .i64 g0) ∧ w'.cell? ⟨wq.heap.size, 1, none⟩ = some (.int .i64 (k : Int)) ∧ w'.cell? ⟨wq.heap.size, 2, none⟩ = some (.int .i64 g2) ∧ w'.cell? ⟨wq.heap.size, 3, none⟩ = some (.int .i64 g3) ∧ w'.cell? ⟨wq.heap.size, 4, none⟩ = some (.int .i64 g4) ∧ w'.cell? ⟨wq.heap.size, 5, none⟩ = some (.bool g5) ∧ w'.cell? ⟨wq.heap.size, 6, none⟩ = some (.slice a1 LA k1) ∧ w'.cell? ⟨wq.heap.size, 7, none⟩ = some (.slice a2 LR k2) ∧ w'.cell? ⟨wq.heap.size, 8, none⟩ = some (.slice a3 LQ k3) ∧ w'.cell? ⟨wq.heap.size, 9, none⟩ = some (.slice a4 LJ k4) ∧ w'.cell? ⟨wq.heap.size, 10, none⟩ = some (.int .i64 g10) ∧ w'.cell? ⟨wq.heap.size, 11, none⟩ = some (.int .i64 g11) ∧ w'.cell? ⟨wq.heap.size, 12, none⟩ = some (.slice a5 LN k5) ∧ w'.cell? ⟨wq.heap.size, 13, none⟩ = some (.int .i64 g13) ∧ w'.cell? ⟨wq.heap.size, 14, none⟩ = some (.int .i64 g14)) ∧ w'.cell? ⟨gb, o + i * 2, none⟩ = some (.int .i64 g0)) (first | with_reducible exact S0 | with_reducible exact S00 | with_reducible exact S1) (first
                      | (go_at_call 44; refine (unhide K0).mono ?_; rintro e z1 ⟨rfl, B1, S1⟩)
                      | fail)
                    all_goals
                      clear S0 S00 S1 K0
                      cases mb with
                      | true =>
                        go_wp2_with fail
                        go_roundw
                        case rel => exact ⟨k + 1, by omega, by go_num, unhide B1, unhide HNX (unhide HMB (by trivial))⟩
                        case measure => simp only [intOf]; omega
                      | false =>
                        go_wp2_with fail
                        go_ret
                        exact ⟨by rw [unhide HMB2 (by trivial)]; rfl, unhide B1⟩
                  · have HR1 := hide (unhide HBD (fun ho => z2 ((unhide HOK).1 ho).2.1))
                    clear HOK HBD HNX
                    obtain ⟨s0, s1, s2, s3, s4, s5, s6, s7, s8, s9, s10, s11, s12, s13, s14⟩ := S0.1
                    have s15 := S0.2
                    clear S0 S00 K0
                    subst z1
                    go_quiet (fail)
                    go_wp2_with fail
                    go_ret
                    exact ⟨by rw [unhide HR1]; rfl, below_drewN (unhide BB) _⟩
                · have HR1 := hide (unhide HBD (fun ho => z1 ((unhide HOK).1 ho).1))
                  clear HOK HBD HNX
                  obtain ⟨s0, s1, s2, s3, s4, s5, s6, s7, s8, s9, s10, s11, s12, s13, s14⟩ := S0.1
                  have s15 := S0.2
                  clear S0 S00 K0
                  go_quiet (fail)
                  go_wp2_with fail
                  go_ret
                  exact ⟨by rw [unhide HR1]; rfl, below_drewN (unhide BB) _⟩
              · obtain rfl : k = M := by omega
                have HO : Hid (Below w.heap.size w wq ∧ ∀ j, j < i + 1 → okL l j) := by
                  refine ⟨(unhide HK).1, fun j hj => ?_⟩
                  rcases Nat.lt_or_ge j i with d | d
                  · exact (unhide HR).2 j d
                  · obtain rfl : j = i := by omega
                    intro p' hp'
                    rw [(unhide HPP).1] at hp'; cases hp'
                    refine ⟨log_iff.2 ⟨by have := unhide HM; omega, fun k' c hc => (unhide HK).2 k' c (by have := (List.getElem?_eq_some_iff.1 hc).1; have := unhide HM; omega) hc⟩, fun q i' e => absurd e (by have := unhide HI0; omega)⟩
                clear HK hcw
                go_wp2_with fail
                go_roundw
                case rel => exact ⟨i + 1, by omega, by go_num, HO⟩
                case measure => simp only [intOf]; omega
          · obtain ⟨q, hq⟩ : ∃ q, l[i - 1]? = some q := ⟨_, List.getElem?_eq_getElem (by omega)⟩
            obtain ⟨gb', o', e', cv', hcv', d0', d1'⟩ := h.get hq
            cases e'
            obtain ⟨qg, hqg⟩ : ∃ z, z = q.1 := ⟨_, rfl⟩
            rw [← hqg] at d0'
            obtain ⟨i', hi'⟩ : ∃ z, z = i - 1 := ⟨_, rfl⟩
            rw [← hi'] at d0' hq
            have f2 : wr.cell? ⟨gb, o + i' * 2, none⟩ = some (.int .i64 qg) := by rw [(unhide HR).1.cell (lt_of_cell d0')]; exact d0'
            have v1 : (i : Int) - 1 = (i' : Int) := by omega
            have v2 : (i' : Int) < (N : Int) := by omega
            have v3 : (0 : Int) ≤ (i' : Int) := by omega
            have v4 : (0 : Int) < (i : Int) := by omega
            have v7 : decide (0 < i) = true := decide_eq_true (by omega)
            have v8 : 0 < i := by omega
            by_cases hqp : qg < pg
            · have HQ : Hid (∀ q' i'', i = i'' + 1 → l[i'']? = some q' → q'.1 < p.1) := fun q' i'' e hq' => by
                obtain rfl : i'' = i' := by omega
                rw [hq] at hq'; cases hq'
                rw [← hqg, ← hpg]; exact hqp
              have v5 : ¬ pg ≤ qg := by omega
              have v6 : decide (pg ≤ qg) = false := decide_eq_false v5
              clear h hN hr hp hcv d0 d1 hpg hM hMl d0' d1' hcv' hq hqg hi' hi0
              go_wp2_with fail
              go_quiet (fail)
              go_wp2_with fail
              go_loopw [4] (fun kv wq => ∃ k : Nat, k ≤ M ∧ kv = .int .i64 (k : Int) ∧ Hid (Below w.heap.size w wq ∧ ∀ j c, j < k → p.2[j]? = some c → okC p.1 j c)) (fun kv _ => (M - intOf kv).toNat)
              case atStart => exact ⟨0, Nat.zero_le _, rfl, below_drewN (unhide HR).1 _, fun j c hj => absurd hj (by omega)⟩
              case round =>
                rename World => wq
                obtain ⟨k, hk, rfl, HK⟩ := hrel
                obtain ⟨e0, e1, hcw⟩ := unhide HP wq (unhide HK).1
                by_cases hkm : k < M
                · have hkI : (k : Int) < (M : Int) := by omega
                  have hk0 : (0 : Int) ≤ (k : Int) := by omega
                  obtain ⟨c, hc⟩ : ∃ c, p.2[k]? = some c := ⟨_, List.getElem?_eq_getElem (by have := unhide HM; omega)⟩
                  obtain ⟨b', o', rfl, x, hx, hcc⟩ := hcw.get hc
                  obtain ⟨a1, k1, x1⟩ := hx.adds.slice
                  obtain ⟨a2, k2, x2⟩ := nums_slice hx.rem
                  obtain ⟨a3, k3, x3⟩ := hx.seals.slice
                  obtain ⟨a4, k4, x4⟩ := hx.joins.slice
                  obtain ⟨a5, k5, x5⟩ := hx.next.slice
                  obtain ⟨w0, hw0⟩ : ∃ w0, w0 = wq.alloc (.cells (cmC c x).toArray 34) := ⟨_, rfl⟩
                  have bl : Below wq.heap.size wq w0 := by rw [hw0]; exact bwA _ _
                  have kk : w0.heap[wq.heap.size]? = some (.cells (cmC c x).toArray 34 (0, 0)) := by rw [hw0]; exact heap_alloc_new _ _
                  have bD : Below w0.heap.size w0 w0.drew := (Below.refl _ _).drew
                  have KM := rmay_any ((hx.bw bl).bw bD)
                  obtain ⟨mb, hmb⟩ : ∃ z, z = mayC c := ⟨_, rfl⟩
                  obtain ⟨OK, hOK⟩ : ∃ P : Prop, P = okC p.1 k c := ⟨_, rfl⟩
                  have HOK : Hid (OK ↔ c.gr = pg ∧ c.ep = (k : Int) ∧ mb = true) := by
                    rw [hOK, (unhide HPP).2, hmb]; exact Iff.rfl
                  have HBD : Hid (¬ OK → r = 1) := fun hn => by
                    rw [hOK] at hn
                    obtain ⟨h, hN, hr⟩ := unhide HH
                    rw [hr, if_neg]
                    intro hch
                    exact hn ((log_iff.1 ((((chk_iff.1 hch).2 i (by omega)) p (unhide HPP).1).1)).2 k c hc)
                  have HNX : Hid (OK → ∀ j c', j < k + 1 → p.2[j]? = some c' → okC p.1 j c') := fun ho j c' hj hc' => by
                    rw [hOK] at ho
                    rcases Nat.lt_or_ge j k with d | d
                    · exact (unhide HK).2 j c' d hc'
                    · obtain rfl : j = k := by omega
                      rw [hc] at hc'; cases hc'; exact ho
                  have BB := hide (bw_tr (unhide HK).1 bl)
                  have e0' : w0.cell? ⟨gb, o + i * 2, none⟩ = some (.int .i64 pg) := by rw [bl.cell (lt_of_cell e0)]; exact e0
                  have hcc' : ∀ j u, (cmC c x)[j]? = some u → wq.cell? ⟨b', o' + k * 15 + j, none⟩ = some u := hcc
                  rw [← hmb] at KM
                  clear hmb hOK hc hcc hcw HK
                  obtain ⟨g0, g1, g2, g3, g4, g5, adds, rem, seals, joins, g10, g11, next, g13, g14⟩ := c
                  obtain ⟨av, rv, qv, jv, nv⟩ := x
                  simp only at x1 x2 x3 x4 x5 HOK
                  subst x1 x2 x3 x4 x5
                  generalize adds.length = LA at *
                  generalize rem.length = LR at *
                  generalize seals.length = LQ at *
                  generalize joins.length = LJ at *
                  generalize next.length = LN at *
                  have y0 : wq.cell? ⟨b', o' + k * 15, none⟩ = some (.int .i64 g0) := hcc' 0 _ rfl
                  have y1 : wq.cell? ⟨b', o' + k * 15 + 1, none⟩ = some (.int .i64 g1) := hcc' 1 _ rfl
                  have y2 : wq.cell? ⟨b', o' + k * 15 + 2, none⟩ = some (.int .i64 g2) := hcc' 2 _ rfl
                  have y3 : wq.cell? ⟨b', o' + k * 15 + 3, none⟩ = some (.int .i64 g3) := hcc' 3 _ rfl
                  have y4 : wq.cell? ⟨b', o' + k * 15 + 4, none⟩ = some (.int .i64 g4) := hcc' 4 _ rfl
                  have y5 : wq.cell? ⟨b', o' + k * 15 + 5, none⟩ = some (.bool g5) := hcc' 5 _ rfl
                  have y6 : wq.cell? ⟨b', o' + k * 15 + 6, none⟩ = some (.slice a1 LA k1) := hcc' 6 _ rfl
                  have y7 : wq.cell? ⟨b', o' + k * 15 + 7, none⟩ = some (.slice a2 LR k2) := hcc' 7 _ rfl
                  have y8 : wq.cell? ⟨b', o' + k * 15 + 8, none⟩ = some (.slice a3 LQ k3) := hcc' 8 _ rfl
                  have y9 : wq.cell? ⟨b', o' + k * 15 + 9, none⟩ = some (.slice a4 LJ k4) := hcc' 9 _ rfl
                  have y10 : wq.cell? ⟨b', o' + k * 15 + 10, none⟩ = some (.int .i64 g10) := hcc' 10 _ rfl
                  have y11 : wq.cell? ⟨b', o' + k * 15 + 11, none⟩ = some (.int .i64 g11) := hcc' 11 _ rfl
                  have y12 : wq.cell? ⟨b', o' + k * 15 + 12, none⟩ = some (.slice a5 LN k5) := hcc' 12 _ rfl
                  have y13 : wq.cell? ⟨b', o' + k * 15 + 13, none⟩ = some (.int .i64 g13) := hcc' 13 _ rfl
                  have y14 : wq.cell? ⟨b', o' + k * 15 + 14, none⟩ = some (.int .i64 g14) := hcc' 14 _ rfl
                  have S0 : (w0.cell? ⟨wq.heap.size, 0, none⟩ = some (.int .i64 g0) ∧ w0.cell? ⟨wq.heap.size, 1, none⟩ = some (.int .i64 g1) ∧ w0.cell? ⟨wq.heap.size, 2, none⟩ = some (.int .i64 g2) ∧ w0.cell? ⟨wq.heap.size, 3, none⟩ = some (.int .i64 g3) ∧ w0.cell? ⟨wq.heap.size, 4, none⟩ = some (.int .i64 g4) ∧ w0.cell? ⟨wq.heap.size, 5, none⟩ = some (.bool g5) ∧ w0.cell? ⟨wq.heap.size, 6, none⟩ = some (.slice a1 LA k1) ∧ w0.cell? ⟨wq.heap.size, 7, none⟩ = some (.slice a2 LR k2) ∧ w0.cell? ⟨wq.heap.size, 8, none⟩ = some (.slice a3 LQ k3) ∧ w0.cell? ⟨wq.heap.size, 9, none⟩ = some (.slice a4 LJ k4) ∧ w0.cell? ⟨wq.heap.size, 10, none⟩ = some (.int .i64 g10) ∧ w0.cell? ⟨wq.heap.size, 11, none⟩ = some (.int .i64 g11) ∧ w0.cell? ⟨wq.heap.size, 12, none⟩ = some (.slice a5 LN k5) ∧ w0.cell? ⟨wq.heap.size, 13, none⟩ = some (.int .i64 g13) ∧ w0.cell? ⟨wq.heap.size, 14, none⟩ = some (.int .i64 g14)) ∧ w0.cell? ⟨gb, o + i * 2, none⟩ = some (.int .i64 pg) := ⟨⟨blk_c kk rfl, blk_c kk rfl, blk_c kk rfl, blk_c kk rfl, blk_c kk rfl, blk_c kk rfl, blk_c kk rfl, blk_c kk rfl, blk_c kk rfl, blk_c kk rfl, blk_c kk rfl, blk_c kk rfl, blk_c kk rfl, blk_c kk rfl, blk_c kk rfl⟩, e0'⟩
                  have S00 : (w0.drew.cell? ⟨wq.heap.size, 0, none⟩ = some (.int .i64 g0) ∧ w0.drew.cell? ⟨wq.heap.size, 1, none⟩ = some (.int .i64 g1) ∧ w0.drew.cell? ⟨wq.heap.size, 2, none⟩ = some (.int .i64 g2) ∧ w0.drew.cell? ⟨wq.heap.size, 3, none⟩ = some (.int .i64 g3) ∧ w0.drew.cell? ⟨wq.heap.size, 4, none⟩ = some (.int .i64 g4) ∧ w0.drew.cell? ⟨wq.heap.size, 5, none⟩ = some (.bool g5) ∧ w0.drew.cell? ⟨wq.heap.size, 6, none⟩ = some (.slice a1 LA k1) ∧ w0.drew.cell? ⟨wq.heap.size, 7, none⟩ = some (.slice a2 LR k2) ∧ w0.drew.cell? ⟨wq.heap.size, 8, none⟩ = some (.slice a3 LQ k3) ∧ w0.drew.cell? ⟨wq.heap.size, 9, none⟩ = some (.slice a4 LJ k4) ∧ w0.drew.cell? ⟨wq.heap.size, 10, none⟩ = some (.int .i64 g10) ∧ w0.drew.cell? ⟨wq.heap.size, 11, none⟩ = some (.int .i64 g11) ∧ w0.drew.cell? ⟨wq.heap.size, 12, none⟩ = some (.slice a5 LN k5) ∧ w0.drew.cell? ⟨wq.heap.size, 13, none⟩ = some (.int .i64 g13) ∧ w0.drew.cell? ⟨wq.heap.size, 14, none⟩ = some (.int .i64 g14)) ∧ w0.drew.cell? ⟨gb, o + i * 2, none⟩ = some (.int .i64 pg) := S0
                  have K0 : Hid (Calls Tryz.prog 44 #[.agg #[.int .i64 g0, .int .i64 g1, .int .i64 g2, .int .i64 g3, .int .i64 g4, .bool g5, .slice a1 LA k1, .slice a2 LR k2, .slice a3 LQ k3, .slice a4 LJ k4, .int .i64 g10, .int .i64 g11, .slice a5 LN k5, .int .i64 g13, .int .i64 g14]] w0.drew fun e w' => e = .returned (.bool mb) ∧ Hid (Below w.heap.size w w') ∧ (w'.cell? ⟨wq.heap.size, 0, none⟩ = some (.int .i64 g0) ∧ w'.cell? ⟨wq.heap.size, 1, none⟩ = some (.int .i64 g1) ∧ w'.cell? ⟨wq.heap.size, 2, none⟩ = some (.int .i64 g2) ∧ w'.cell? ⟨wq.heap.size, 3, none⟩ = some (.int .i64 g3) ∧ w'.cell? ⟨wq.heap.size, 4, none⟩ = some (.int .i64 g4) ∧ w'.cell? ⟨wq.heap.size, 5, none⟩ = some (.bool g5) ∧ w'.cell? ⟨wq.heap.size, 6, none⟩ = some (.slice a1 LA k1) ∧ w'.cell? ⟨wq.heap.size, 7, none⟩ = some (.slice a2 LR k2) ∧ w'.cell? ⟨wq.heap.size, 8, none⟩ = some (.slice a3 LQ k3) ∧ w'.cell? ⟨wq.heap.size, 9, none⟩ = some (.slice a4 LJ k4) ∧ w'.cell? ⟨wq.heap.size, 10, none⟩ = some (.int .i64 g10) ∧ w'.cell? ⟨wq.heap.size, 11, none⟩ = some (.int .i64 g11) ∧ w'.cell? ⟨wq.heap.size, 12, none⟩ = some (.slice a5 LN k5) ∧ w'.cell? ⟨wq.heap.size, 13, none⟩ = some (.int .i64 g13) ∧ w'.cell? ⟨wq.heap.size, 14, none⟩ = some (.int .i64 g14)) ∧ w'.cell? ⟨gb, o + i * 2, none⟩ = some (.int .i64 pg)) := by
                    refine Calls.mono KM ?_
                    rintro e w' ⟨h1, h2⟩
                    have b9 := bw_tr bD h2
                    have kk9 := kept_b kk (lt_of_blk kk) b9
                    exact ⟨h1, bw_tr (unhide BB) b9, ⟨blk_c kk9 rfl, blk_c kk9 rfl, blk_c kk9 rfl, blk_c kk9 rfl, blk_c kk9 rfl, blk_c kk9 rfl, blk_c kk9 rfl, blk_c kk9 rfl, blk_c kk9 rfl, blk_c kk9 rfl, blk_c kk9 rfl, blk_c kk9 rfl, blk_c kk9 rfl, blk_c kk9 rfl, blk_c kk9 rfl⟩, by rw [b9.cell (lt_of_cell e0')]; exact e0'⟩
                  have HW : Hid (w0 = wq.alloc (.cells #[.int .i64 g0, .int .i64 g1, .int .i64 g2, .int .i64 g3, .int .i64 g4, .bool g5, .slice a1 LA k1, .slice a2 LR k2, .slice a3 LQ k3, .slice a4 LJ k4, .int .i64 g10, .int .i64 g11, .slice a5 LN k5, .int .i64 g13, .int .i64 g14] 34)) := hw0
                  clear hw0 bl kk bD KM hx hcc' e0'
                  go_wp2_with fail
                  rw [← unhide HW]
                  clear HW y0 y1 y2 y3 y4 y5 y6 y7 y8 y9 y10 y11 y12 y13 y14
                  by_cases z1 : g0 = pg
                  · by_cases z2 : g1 = (k : Int)
                    · have HMB : Hid (mb = true → OK) := fun hm => (unhide HOK).2 ⟨z1, z2, hm⟩
                      have HMB2 : Hid (mb = false → r = 1) := fun hm => unhide HBD (fun ho => by have := ((unhide HOK).1 ho).2.2; rw [hm] at this; cases this)
                      clear HOK HBD
                      subst z1 z2
                      go_region_held3 (fun w' : World => (w'.cell? ⟨wq.heap.size, 0, none⟩ = some (.int .i64 g0) ∧ w'.cell? ⟨wq.heap.size, 1, none⟩ = some (.int .i64 (k : Int)) ∧ w'.cell? ⟨wq.heap.size, 2, none⟩ = some (.int .i64 g2) ∧ w'.cell? ⟨wq.heap.size, 3, none⟩ = some (.int .i64 g3) ∧ w'.cell? ⟨wq.heap.size, 4, none⟩ = some (.int .i64 g4) ∧ w'.cell? ⟨wq.heap.size, 5, none⟩ = some (.bool g5) ∧ w'.cell? ⟨wq.heap.size, 6, none⟩ = some (.slice a1 LA k1) ∧ w'.cell? ⟨wq.heap.size, 7, none⟩ = some (.slice a2 LR k2) ∧ w'.cell? ⟨wq.heap.size, 8, none⟩ = some (.slice a3 LQ k3) ∧ w'.cell? ⟨wq.heap.size, 9, none⟩ = some (.slice a4 LJ k4) ∧ w'.cell? ⟨wq.heap.size, 10, none⟩ = some (.int .i64 g10) ∧ w'.cell? ⟨wq.heap.size, 11, none⟩ = some (.int .i64 g11) ∧ w'.cell? ⟨wq.heap.size, 12, none⟩ = some (.slice a5 LN k5) ∧ w'.cell? ⟨wq.heap.size, 13, none⟩ = some (.int .i64 g13) ∧ w'.cell? ⟨wq.heap.size, 14, none⟩ = some (.int .i64 g14)) ∧ w'.cell? ⟨gb, o + i * 2, none⟩ = some (.int .i64 g0)) (first | with_reducible exact S0 | with_reducible exact S00 | with_reducible exact S1) (first
                        | (go_at_call 44; refine (unhide K0).mono ?_; rintro e z1 ⟨rfl, B1, S1⟩)
                        | fail)
                      all_goals
                        clear S0 S00 S1 K0
                        cases mb with
                        | true =>
                          go_wp2_with fail
                          go_roundw
                          case rel => exact ⟨k + 1, by omega, by go_num, unhide B1, unhide HNX (unhide HMB (by trivial))⟩
                          case measure => simp only [intOf]; omega
                        | false =>
                          go_wp2_with fail
                          go_ret
                          exact ⟨by rw [unhide HMB2 (by trivial)]; rfl, unhide B1⟩
                    · have HR1 := hide (unhide HBD (fun ho => z2 ((unhide HOK).1 ho).2.1))
                      clear HOK HBD HNX
                      obtain ⟨s0, s1, s2, s3, s4, s5, s6, s7, s8, s9, s10, s11, s12, s13, s14⟩ := S0.1
                      have s15 := S0.2
                      clear S0 S00 K0
                      subst z1
                      go_quiet (fail)
                      go_wp2_with fail
                      go_ret
                      exact ⟨by rw [unhide HR1]; rfl, below_drewN (unhide BB) _⟩
                  · have HR1 := hide (unhide HBD (fun ho => z1 ((unhide HOK).1 ho).1))
                    clear HOK HBD HNX
                    obtain ⟨s0, s1, s2, s3, s4, s5, s6, s7, s8, s9, s10, s11, s12, s13, s14⟩ := S0.1
                    have s15 := S0.2
                    clear S0 S00 K0
                    go_quiet (fail)
                    go_wp2_with fail
                    go_ret
                    exact ⟨by rw [unhide HR1]; rfl, below_drewN (unhide BB) _⟩
                · obtain rfl : k = M := by omega
                  have HO : Hid (Below w.heap.size w wq ∧ ∀ j, j < i + 1 → okL l j) := by
                    refine ⟨(unhide HK).1, fun j hj => ?_⟩
                    rcases Nat.lt_or_ge j i with d | d
                    · exact (unhide HR).2 j d
                    · obtain rfl : j = i := by omega
                      intro p' hp'
                      rw [(unhide HPP).1] at hp'; cases hp'
                      refine ⟨log_iff.2 ⟨by have := unhide HM; omega, fun k' c hc => (unhide HK).2 k' c (by have := (List.getElem?_eq_some_iff.1 hc).1; have := unhide HM; omega) hc⟩, unhide HQ⟩
                  clear HK hcw
                  go_wp2_with fail
                  go_roundw
                  case rel => exact ⟨i + 1, by omega, by go_num, HO⟩
                  case measure => simp only [intOf]; omega
            · have HR1 : Hid (r = 1 ∧ Below w.heap.size w wr) := by
                refine ⟨?_, (unhide HR).1⟩
                rw [hr, if_neg]
                intro hch
                have := ((((chk_iff.1 hch).2 i (by omega)) p hp).2 q i' (by omega) hq)
                omega
              have v5 : pg ≤ qg := by omega
              clear h hN hr hp hcv d0 d1 hpg hM hMl d0' d1' hcv' hq hqg hi' hi0 HP HPP HM HR HE
              go_wp2_with fail
              go_quiet (fail)
              go_wp2_with fail
              go_ret
              exact ⟨by rw [(unhide HR1).1]; rfl, below_drewN (unhide HR1).2 _⟩
      · obtain rfl : i = N := by omega
        have HR1 : Hid (r = 0 ∧ Below w.heap.size w wr) := ⟨unhide HE (unhide HR).2, (unhide HR).1⟩
        clear HH HE HR
        go_wp2_with fail
        go_ret
        exact ⟨by rw [(unhide HR1).1]; rfl, (unhide HR1).2⟩
  · have h16I : (16 : Int) < (N : Int) := by omega
    have hr1 : r = 1 := by rw [hr, if_neg]; intro hch; have := (chk_iff.1 hch).1; omega
    have HR1 := hide hr1
    clear h hN hl hr hr1 HH
    go_enter Tryz.func15, Tryz.ntmps15
    go_wp2_with fail
    go_ret
    exact ⟨by rw [unhide HR1]; rfl, Below.refl _ _⟩
end Go.Proofs.YtnfhbmlmemifjaaGreatDoor

/- The document's Len of logs. -/
namespace Go.Proofs.YtnfhbmlmemifjaaGreatDoor
open Go.RowKit Go.Maps
theorem plF_cases (l : List Lg) (g : Int) : (plF l g = -1 ∧ fndL l g = none) ∨ ∃ (i : Nat) (p : Lg), plF l g = (i : Int) ∧ l[i]? = some p ∧ fndL l g = some p.2 := by
  unfold plF fndL
  cases h : l.findIdx? (fun p => decide (p.1 = g)) with
  | none =>
    left
    refine ⟨rfl, ?_⟩
    rw [List.findIdx?_eq_none_iff] at h
    rw [List.find?_eq_none.2 (fun x hx => by have := h x hx; simpa using this)]
    rfl
  | some i =>
    right
    rw [List.findIdx?_eq_some_iff_getElem] at h
    obtain ⟨hi, h1, h2⟩ := h
    refine ⟨i, l[i], rfl, List.getElem?_eq_getElem hi, ?_⟩
    have : l.find? (fun p => decide (p.1 = g)) = some l[i] := by
      rw [List.find?_eq_some_iff_getElem]
      exact ⟨h1, i, hi, rfl, fun j hj => by simpa using h2 j hj⟩
    rw [this]
    rfl
set_option maxRecDepth 100000 in
set_option maxHeartbeats 4000000 in
theorem rlen_any {w : World} {v : Value} {l : List Lg} (h : Lgs w v l) (g : Int) :
    Calls Tryz.prog 17 #[v, .int .i64 g] w fun e w' => e = .returned (.int .i64 (lenL l g : Nat)) ∧ Below w.heap.size w w' := by
  have KP := hide (rplace_any h g)
  have KC : Hid (∀ W, Below w.heap.size w W → Calls Tryz.prog 15 #[v] W fun e w' => e = .returned (.int .i64 (if chkB l = true then 0 else 1)) ∧ Below W.heap.size W w') := fun W hW => rchk_any (h.bw hW)
  obtain ⟨a, cap, rfl⟩ := h.slice
  have hl := h.len
  obtain ⟨N, hN⟩ : ∃ N, N = l.length := ⟨_, rfl⟩
  rw [← hN] at KP KC h hl ⊢
  have hNI : (N : Int) ≤ 140737488355328 := by omega
  obtain ⟨L, hL⟩ : ∃ L, L = lenL l g := ⟨_, rfl⟩
  rw [← hL]
  obtain ⟨bc, hbc⟩ : ∃ b, b = chkB l := ⟨_, rfl⟩
  rw [← hbc] at KC
  have hL0 : bc = false → L = 0 := fun q => by rw [hL]; unfold lenL; rw [← hbc, q]; rfl
  rcases plF_cases l g with ⟨e1, e2⟩ | ⟨i, p, e1, e2, e3⟩
  · rw [e1] at KP
    have HL : Hid (L = 0) := by
      unfold Hid
      rw [hL]; unfold lenL; rw [e2]; simp
    clear h hN hl hL hbc e1 e2 hL0
    go_enter Tryz.func17, Tryz.ntmps17
    go_wp2_with fail
    refine (unhide KP).mono ?_
    rintro x w1 ⟨rfl, b1⟩
    have B1 := hide b1
    clear b1
    go_wp2_with fail
    refine (unhide KC w1 (unhide B1)).mono ?_
    rintro x w2 ⟨rfl, b2⟩
    have B2 := hide (bw_tr (unhide B1) b2)
    clear b2 B1
    cases bc with
    | true =>
      simp only [if_true] at *
      go_wp2_with fail
      go_ret
      exact ⟨by rw [unhide HL]; rfl, unhide B2⟩
    | false =>
      simp only [Bool.false_eq_true, if_false] at *
      go_wp2_with fail
      go_ret
      exact ⟨by rw [unhide HL]; rfl, unhide B2⟩
  · rw [e1] at KP
    have hi : i < N := by rw [hN]; exact (List.getElem?_eq_some_iff.1 e2).1
    have hiI : (i : Int) < (N : Int) := by omega
    have h0 : (0 : Int) ≤ (i : Int) := by omega
    have h1 : ¬ (i : Int) < 0 := by omega
    obtain ⟨gb, o, ea, cv, hcv, d0, d1⟩ := h.get e2
    subst ea
    obtain ⟨a2, c2, rfl⟩ := hcv.slice
    have hL1 : bc = true → L = p.2.length := fun q => by rw [hL]; unfold lenL; rw [← hbc, q, e3]; rfl
    have HC : Hid (∀ W, Below w.heap.size w W → W.cell? ⟨gb, o + i * 2 + 1, none⟩ = some (.slice a2 p.2.length c2)) := fun W hW => by rw [hW.cell (lt_of_cell d1)]; exact d1
    have HL := hide (And.intro hL0 hL1)
    clear h hN hl hL hbc e1 e2 e3 hL0 hL1 hcv d0 d1
    generalize p.2.length = M at *
    go_enter Tryz.func17, Tryz.ntmps17
    go_wp2_with fail
    refine (unhide KP).mono ?_
    rintro x w1 ⟨rfl, b1⟩
    have B1 := hide b1
    clear b1
    go_wp2_with fail
    refine (unhide KC w1 (unhide B1)).mono ?_
    rintro x w2 ⟨rfl, b2⟩
    have B2 := hide (bw_tr (unhide B1) b2)
    have d1 := unhide HC w2 (unhide B2)
    clear b2 B1
    cases bc with
    | true =>
      have hLM := hide ((unhide HL).2 rfl)
      clear HL HC
      simp only [if_true] at *
      go_wp2_with fail
      go_ret
      exact ⟨by rw [unhide hLM]; rfl, unhide B2⟩
    | false =>
      have hLM := hide ((unhide HL).1 rfl)
      clear HL HC
      simp only [Bool.false_eq_true, if_false] at *
      go_wp2_with fail
      go_ret
      exact ⟨by rw [unhide hLM]; rfl, unhide B2⟩
end Go.Proofs.YtnfhbmlmemifjaaGreatDoor
