/- The contract of the document's parent. -/
import Derived.Test.YtgmlkofogeoocaaGreatDoorZ04
import Derived.Test.YtgmlkofogeoocaaGreatDoorZ02
namespace Go.Proofs.YtgmlkofogeoocaaGreatDoor
open Go.RowKit Go.Maps
theorem ndM_odd (T : List Nd) (x : Nat) (hodd : x % 2 = 1) {p m e : Int} {l : List Int} (hp : (ndAt T x).pub = p) (hm : (ndAt T x).mem = m) (he : (ndAt T x).ep = e) (hl : (ndAt T x).un = l) :
    ndM T x = if blkB p m e l.length = true then true else if p ≤ 0 then false else m == 0 && e == 0 && unM T (spF (x : Nat)) (spT (x : Nat)) l := by
  rw [ndM_def T x hp hm he hl]
  have hemp : l.isEmpty = ((l.length : Int) == 0) := by cases l <;> simp <;> omega
  rw [hemp, if_neg (show ¬ x % 2 = 0 by omega)]
  unfold blkB
  by_cases k0 : p = 0
  · subst k0
    simp only [if_true, Int.le_refl, beq_self_eq_true, Bool.true_and]
    cases (m == 0 && e == 0 && ((l.length : Int) == 0)) <;> simp
  · have k1 : (p == 0) = false := by simp [k0]
    rw [if_neg k0, k1]
    simp only [Bool.false_and, Bool.false_eq_true, if_false]
    by_cases k2 : p < 0
    · rw [if_pos k2, if_pos (by omega)]
    · rw [if_neg k2, if_neg (by omega)]
set_option maxRecDepth 100000 in
set_option maxHeartbeats 4000000 in
theorem rpar8_any {w : World} {v : Value} {T : List Nd} (h : Trd w v T) (hw : Wd T) {x : Nat} (hx : x < T.length) (hodd : x % 2 = 1) :
    Calls Tryz.prog 58 #[.agg #[v], .int .i64 (x : Int)] w fun e w' => e = .returned (.bool (ndM T x)) ∧ Below w.heap.size w w' := by
  obtain ⟨g1, g2, g3, g4, g5⟩ := hw.facts
  obtain ⟨⟨s1, s2, s3, -⟩, -⟩ := span_of g1 (show x < 2 * nlv T - 1 by omega)
  obtain ⟨a, c, rfl⟩ := h.slice
  obtain ⟨-, h2⟩ := h.at
  obtain ⟨b, o, rfl, h3⟩ := h2 (by omega)
  obtain ⟨u, k1, k2⟩ := h3 _ (bwA w (.cells #[.slice (some ⟨b, o, none⟩) T.length c] 30)) x hx
  obtain ⟨au, cu, rfl⟩ := nums_slice k2
  obtain ⟨c0, c1, c2, c3⟩ := k1
  have hul := h.unl _ (ndAt_mem hx)
  obtain ⟨p, hp⟩ : ∃ p, (ndAt T x).pub = p := ⟨_, rfl⟩
  obtain ⟨m, hm⟩ : ∃ p, (ndAt T x).mem = p := ⟨_, rfl⟩
  obtain ⟨e, he⟩ : ∃ p, (ndAt T x).ep = p := ⟨_, rfl⟩
  obtain ⟨l, hl⟩ : ∃ p, (ndAt T x).un = p := ⟨_, rfl⟩
  have HD := hide (ndM_odd T x hodd hp hm he hl)
  rw [hp] at c0
  rw [hm] at c1
  rw [he] at c2
  rw [hl] at c3 hul k2
  obtain ⟨M, hM⟩ : ∃ M, M = l.length := ⟨_, rfl⟩
  obtain ⟨W, hWd⟩ : ∃ W, W = (w.alloc (.cells #[.slice (some ⟨b, o, none⟩) T.length c] 30)).alloc (.cells #[.int .i64 p, .int .i64 m, .int .i64 e, .slice au M cu] 57) := ⟨_, rfl⟩
  rw [← hM] at c3 hul HD
  have hM1 : (M : Int) ≤ 140737488355328 := by omega
  have hbW : Below w.heap.size w W := by rw [hWd]; exact (bwA _ _).alloc (by simp) _
  have KB := hide (rblank_any p m e au M cu W hM1)
  have KS : Hid (∀ W, Calls Tryz.prog 85 #[.int .i64 (x : Int)] W fun e w' => e = .returned (.tuple #[.int .i64 (spF x), .int .i64 (spT x)]) ∧ w' = W) := fun W => rspan_any (x : Int) W (by omega)
  have HB : Hid (∀ W', Below W.heap.size W W' → (W'.cell? ⟨w.heap.size, 0, none⟩ = some (.slice (some ⟨b, o, none⟩) T.length c) ∧ W'.cell? ⟨w.heap.size + 1, 0, none⟩ = some (.int .i64 p) ∧ W'.cell? ⟨w.heap.size + 1, 1, none⟩ = some (.int .i64 m) ∧ W'.cell? ⟨w.heap.size + 1, 2, none⟩ = some (.int .i64 e) ∧ W'.cell? ⟨w.heap.size + 1, 3, none⟩ = some (.slice au M cu)) ∧ Below w.heap.size w W') := fun W' hb => by
    have e0 : W'.heap[w.heap.size]? = some (.cells #[.slice (some ⟨b, o, none⟩) T.length c] 30 (0, 0)) := by
      rw [hb.block _ (by rw [hWd]; simp; omega), hWd, Below.heap_alloc _ _ _ (by simp)]; exact heap_alloc_new _ _
    have e1 : W'.heap[w.heap.size + 1]? = some (.cells #[.int .i64 p, .int .i64 m, .int .i64 e, .slice au M cu] 57 (0, 0)) := by
      rw [hb.block _ (by rw [hWd]; simp), hWd]
      have := heap_alloc_new (w.alloc (.cells #[.slice (some ⟨b, o, none⟩) T.length c] 30)) (.cells #[.int .i64 p, .int .i64 m, .int .i64 e, .slice au M cu] 57)
      simpa using this
    exact ⟨⟨by simp [World.cell?, e0], by simp [World.cell?, e1], by simp [World.cell?, e1], by simp [World.cell?, e1], by simp [World.cell?, e1]⟩, bw_tr hbW hb⟩
  have HP : Hid (∀ y : Nat, y < T.length → ∀ W', Below w.heap.size w W' → W'.cell? ⟨b, o + y * 4, none⟩ = some (.int .i64 (ndAt T y).pub)) := fun y hy W' hb => by
    obtain ⟨u, k, _⟩ := h3 W' hb y hy; exact k.c0
  have k2' := k2.bw (w' := W) (by rw [hWd]; exact bwA _ _)
  have HL : Hid (∀ i z, l[i]? = some z → ∃ g o', au = some ⟨g, o', none⟩ ∧ ∀ W', Below W.heap.size W W' → W'.cell? ⟨g, o' + i, none⟩ = some (.int .i64 z)) := fun i z hz => by
    obtain ⟨g, o', cap, e, hc⟩ := k2'.open (by have := (List.getElem?_eq_some_iff.1 hz).1; omega)
    cases e
    refine ⟨g, o', rfl, fun W' hW => ?_⟩
    have hcc := hc i z hz
    rw [hW.cell (p := ⟨g, o' + i, none⟩) (lt_of_cell (a := ⟨g, o' + i, none⟩) hcc)]; exact hcc
  have HX : Hid (∀ i : Nat, (i : Int) ≤ spT (x : Nat) → 2 * i < T.length) := fun i hi => by omega
  have hF0 : (0 : Int) ≤ spF (x : Nat) := s1
  have hF7 : spF (x : Nat) ≤ 7 := by omega
  have hT7 : spT (x : Nat) ≤ 7 := by omega
  have HW : Hid (W = (w.alloc (.cells #[.slice (some ⟨b, o, none⟩) T.length c] 30)).alloc (.cells #[.int .i64 p, .int .i64 m, .int .i64 e, .slice au M cu] 57)) := hWd
  have HM := hide hM
  obtain ⟨r, hr⟩ : ∃ r, r = ndM T x := ⟨_, rfl⟩
  rw [← hr] at HD ⊢
  have hx1 : (x : Int) < (T.length : Int) := by omega
  have hx2 : (0 : Int) ≤ (x : Int) := by omega
  have g3' : (T.length : Int) ≤ 15 := by omega
  clear h h2 h3 k2 k2' hul hp hm he hl hM hr hw g1 g2 g3 g4 g5 hx hWd hbW s1 s2 s3 hodd
  generalize T.length = N at *
  generalize spF (x : Nat) = F at *
  generalize spT (x : Nat) = L at *
  generalize blkB p m e M = bb at *
  cases bb
  · have HD2 : Hid (r = if p ≤ 0 then false else m == 0 && e == 0 && unM T F L l) := by have := unhide HD; simpa [Hid] using this
    clear HD
    by_cases kp : p ≤ 0
    · obtain rfl : r = false := by rw [unhide HD2, if_pos kp]
      clear HD2
      go_enter Tryz.func58, Tryz.ntmps58
      go_wp2_with fail
      rw [← unhide HW]
      refine (unhide KB).mono ?_
      rintro x1 w1 ⟨rfl, b1⟩
      obtain ⟨⟨d0, d1, d2, d3, d4⟩, b2⟩ := unhide HB _ b1
      clear c0 c1 c2 c3 b1 KB
      go_wp2
      go_ret
      exact ⟨rfl, b2⟩
    · have kp' : decide (p ≤ 0) = false := decide_eq_false kp
      have HD3 : Hid (r = (m == 0 && e == 0 && unM T F L l)) := by have := unhide HD2; rw [if_neg kp] at this; exact this
      clear HD2
      by_cases km : m = 0
      · subst km
        by_cases ke : e = 0
        · subst ke
          have HD4 : Hid (r = unM T F L l) := by have := unhide HD3; simpa [Hid] using this
          clear HD3
          go_enter Tryz.func58, Tryz.ntmps58
          go_wp2_with fail
          rw [← unhide HW]
          refine (unhide KB).mono ?_
          rintro x1 w1 ⟨rfl, b1⟩
          obtain ⟨⟨d0, d1, d2, d3, d4⟩, b2⟩ := unhide HB _ b1
          clear c0 c1 c2 c3 KB
          go_wp2_with fail
          refine (unhide KS w1).mono ?_
          rintro x1 w1 ⟨rfl, rfl⟩
          go_wp2_with fail
          go_loopw [8] (fun iv wr => ∃ i : Nat, iv = .int .i64 (i : Int) ∧ i ≤ M ∧ Hid (∃ f, unM T f L (l.drop i) = r ∧ F ≤ f ∧ (i = 0 → f = F) ∧ ∀ j z, i = j + 1 → l[j]? = some z → f = z + 1) ∧ wr = w1) (fun iv _ => (M - (intOf iv)).toNat)
          case atStart => exact ⟨0, rfl, by omega, ⟨F, (unhide HD4).symm, Int.le_refl _, fun _ => rfl, fun j z hj => by omega⟩, rfl⟩
          case round =>
            obtain ⟨i, rfl, hi, hrem, rfl⟩ := hrel
            by_cases hlt : i < M
            · obtain ⟨z, hz⟩ : ∃ z, l[i]? = some z := ⟨_, List.getElem?_eq_getElem (by have := unhide HM; omega)⟩
              obtain ⟨g, o', rfl, hc⟩ := unhide HL i z hz
              have cz := hc _ b1
              have q1 : (i : Int) < (M : Int) := by omega
              have q0 : (0 : Int) ≤ (i : Int) := by omega
              have hd : l.drop i = z :: l.drop (i + 1) := by
                rw [List.drop_eq_getElem_cons (by have := unhide HM; omega)]; congr 1
                have := List.getElem?_eq_some_iff.1 hz; exact this.2
              obtain ⟨f, hf1, hf2, hf3, hf4⟩ := unhide hrem
              rw [hd] at hf1
              have HF1 : Hid ((decide (f ≤ z) && decide (z ≤ L) && pos (ndAt T (2 * z.toNat)) && unM T (z + 1) L (l.drop (i + 1))) = r) := hf1
              have HZ := hide hz
              clear hf1 hd hrem hz hc
              by_cases kF : z < F
              · have e : r = false := by rw [← unhide HF1, decide_eq_false (by omega)]; simp
                subst e
                clear hf2 hf3 hf4
                go_wp2_with fail
                go_ret
                exact ⟨rfl, b2⟩
              · have kF' : decide (z < F) = false := decide_eq_false kF
                by_cases kL : L < z
                · have e : r = false := by rw [← unhide HF1, decide_eq_false (show ¬ z ≤ L by omega)]; simp
                  subst e
                  clear hf2 hf3 hf4
                  go_wp2_with fail
                  go_ret
                  exact ⟨rfl, b2⟩
                · have kL' : decide (L < z) = false := decide_eq_false kL
                  obtain ⟨y, hy⟩ : ∃ y : Nat, y = 2 * z.toNat := ⟨_, rfl⟩
                  have hyN : y < N := by rw [hy]; exact unhide HX z.toNat (by omega)
                  have cy := unhide HP y hyN _ b2
                  have q3 : 2 * z = (y : Int) := by omega
                  have z0 : 0 ≤ z := by omega
                  have z7 : z ≤ 7 := by omega
                  have y1 : (y : Int) < (N : Int) := by omega
                  have y0 : (0 : Int) ≤ (y : Int) := by omega
                  rw [← hy] at HF1
                  clear hy hyN
                  by_cases kq : (ndAt T y).pub = 0
                  · have e : r = false := by rw [← unhide HF1]; simp [pos, kq]
                    subst e
                    rw [kq] at cy
                    clear hf2 hf3 hf4 kq
                    go_wp2_with fail
                    go_ret
                    exact ⟨rfl, b2⟩
                  · have hpos : pos (ndAt T y) = true := by simp [pos, kq]
                    rw [hpos] at HF1
                    generalize (ndAt T y).pub = q at *
                    have kq1 : (q == 0) = false := by simp [kq]
                    have kq2 : decide (q = 0) = false := by simp [kq]
                    clear hpos kq
                    rcases Nat.eq_zero_or_pos i with h0 | h0
                    · have i0 : decide ((0 : Int) < (i : Int)) = false := decide_eq_false (by omega)
                      have i1 : decide (0 < i) = false := decide_eq_false (by omega)
                      have i2 : ¬ (0 < i) := by omega
                      have hr2 : Hid (unM T (z + 1) L (l.drop (i + 1)) = r) := by
                        have := unhide HF1
                        rw [decide_eq_true (show f ≤ z by rw [hf3 h0]; omega), decide_eq_true (show z ≤ L by omega)] at this
                        simpa [Hid] using this
                      have HJ : Hid (∀ j' z2, i + 1 = j' + 1 → l[j']? = some z2 → z + 1 = z2 + 1) := fun j' z2 hj' hz2 => by
                        obtain rfl : j' = i := by omega
                        have := unhide HZ; rw [hz2] at this; cases this; rfl
                      clear HF1 hf2 hf3 hf4 h0
                      go_wp2_with fail
                      go_roundw
                      case rel => exact ⟨i + 1, by go_num, by omega, ⟨z + 1, unhide hr2, by omega, fun q => by omega, unhide HJ⟩, by trivial⟩
                      case measure => simp [intOf]; omega
                    · obtain ⟨j, hj⟩ : ∃ j, i = j + 1 := ⟨i - 1, by omega⟩
                      obtain ⟨z', hz'⟩ : ∃ z, l[j]? = some z := ⟨_, List.getElem?_eq_getElem (by have := unhide HM; omega)⟩
                      obtain ⟨g', o'', e', hc'⟩ := unhide HL j z' hz'
                      cases e'
                      have cz' := hc' _ b1
                      have j1 : (i : Int) - 1 = (j : Int) := by omega
                      have j2 : (0 : Int) < (i : Int) := by omega
                      have j3 : (j : Int) < (M : Int) := by omega
                      have j4 : (0 : Int) ≤ (j : Int) := by omega
                      have hfz := hf4 j z' hj hz'
                      have HJ : Hid (∀ j' z2, i + 1 = j' + 1 → l[j']? = some z2 → z + 1 = z2 + 1) := fun j' z2 hj' hz2 => by
                        obtain rfl : j' = i := by omega
                        have := unhide HZ; rw [hz2] at this; cases this; rfl
                      clear hf3 hf4 hz' hc' hj HZ
                      by_cases kz : z ≤ z'
                      · have e : r = false := by rw [← unhide HF1, decide_eq_false (show ¬ f ≤ z by omega)]; simp
                        subst e
                        clear hf2 hfz HF1
                        go_wp2_with fail
                        go_ret
                        exact ⟨rfl, b2⟩
                      · have kz' : decide (z ≤ z') = false := decide_eq_false kz
                        have hr2 : Hid (unM T (z + 1) L (l.drop (i + 1)) = r) := by
                          have := unhide HF1
                          rw [decide_eq_true (show f ≤ z by omega), decide_eq_true (show z ≤ L by omega)] at this
                          simpa [Hid] using this
                        clear HF1 hf2 hfz
                        go_wp2_with fail
                        go_roundw
                        case rel => exact ⟨i + 1, by go_num, by omega, ⟨z + 1, unhide hr2, by omega, fun q => by omega, unhide HJ⟩, by trivial⟩
                        case measure => simp [intOf]; omega
            · have e : r = true := by
                obtain ⟨f, hf1, -⟩ := unhide hrem
                rw [← hf1, List.drop_of_length_le (by have := unhide HM; omega)]; rfl
              subst e
              obtain rfl : i = M := by omega
              clear hrem
              go_wp2_with fail
              go_ret
              exact ⟨rfl, b2⟩
        · have k2' : (e == 0) = false := by simp [ke]
          have k2'' : decide (e = 0) = false := by simp [ke]
          have k2n : (e != 0) = true := by simp [ke]
          obtain rfl : r = false := by rw [unhide HD3, k2']; simp
          clear HD3
          go_enter Tryz.func58, Tryz.ntmps58
          go_wp2_with fail
          rw [← unhide HW]
          refine (unhide KB).mono ?_
          rintro x1 w1 ⟨rfl, b1⟩
          obtain ⟨⟨d0, d1, d2, d3, d4⟩, b2⟩ := unhide HB _ b1
          clear c0 c1 c2 c3 b1 KB
          go_wp2
          go_ret
          exact ⟨rfl, b2⟩
      · have k2' : (m == 0) = false := by simp [km]
        have k2'' : decide (m = 0) = false := by simp [km]
        have k2n : (m != 0) = true := by simp [km]
        obtain rfl : r = false := by rw [unhide HD3, k2']; simp
        clear HD3
        go_enter Tryz.func58, Tryz.ntmps58
        go_wp2_with fail
        rw [← unhide HW]
        refine (unhide KB).mono ?_
        rintro x1 w1 ⟨rfl, b1⟩
        obtain ⟨⟨d0, d1, d2, d3, d4⟩, b2⟩ := unhide HB _ b1
        clear c0 c1 c2 c3 b1 KB
        go_wp2
        go_ret
        exact ⟨rfl, b2⟩
  · obtain rfl : r = true := by have := unhide HD; simpa using this
    clear HD
    go_enter Tryz.func58, Tryz.ntmps58
    go_wp2_with fail
    rw [← unhide HW]
    refine (unhide KB).mono ?_
    rintro x1 w1 ⟨rfl, b1⟩
    obtain ⟨⟨d0, d1, d2, d3, d4⟩, b2⟩ := unhide HB _ b1
    clear c0 c1 c2 c3 b1 KB
    go_wp2
    go_ret
    exact ⟨rfl, b2⟩
end Go.Proofs.YtgmlkofogeoocaaGreatDoor
