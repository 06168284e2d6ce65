/- The contracts of mayBe, Check, Size, Members and Find. -/
import Derived.Test.YtjjkhjiiakamaaaDoorTrC
import Derived.Test.YtjjkhjiiakamaaaDoorTrD
namespace Go.Proofs.YtjjkhjiiakamaaaDoor
open Go.RowKit Go.Maps

theorem wid_small {n N : Nat} (h8 : n ≤ 8) (hN : 0 < N) (h : wid (n : Nat) = (N : Nat)) : n ∈ sizes ∧ N = 2 * n - 1 := by
  have hh : ∀ n ∈ List.range 9, (n ∈ sizes ∧ wid (n : Nat) = ((2 * n - 1 : Nat) : Int)) ∨ wid (n : Nat) = 0 := by decide +kernel
  rcases hh n (List.mem_range.2 (by omega)) with ⟨c1, c2⟩ | c
  · exact ⟨c1, by omega⟩
  · omega
/-- Of nodes one after the other. -/
theorem all_succ (p : Nat → Bool) (i : Nat) : (List.range (i + 1)).all p = ((List.range i).all p && p i) := by
  rw [List.range_succ, List.all_append]; simp
set_option maxRecDepth 100000 in
set_option maxHeartbeats 2000000 in
theorem mayBe_any {w : World} {v : Value} {T : List Nd} (h : Trd w v T) (hT : Tab w) :
    Calls Tryd.prog 26 #[.agg #[v]] w fun e w' => e = .returned (.bool (mayB T)) ∧ Below w.heap.size w w' := by
  obtain ⟨a, c, rfl⟩ := h.slice
  have hl := h.len
  obtain ⟨w0, hw0⟩ : ∃ w0, w0 = bxw w (.slice a T.length c) := ⟨_, rfl⟩
  have HB : Hid (∀ W, Below w0.heap.size w0 W → W.cell? ⟨w.heap.size, 0, none⟩ = some (.slice a T.length c) ∧ Below w.heap.size w W) := fun W hW => by subst hw0; exact ⟨bx_cell hW, bx_bel hW⟩
  have b0 : Below w.heap.size w w0 := by rw [hw0]; exact bwA _ _
  have KL := hide (leaves_any a T.length c w0 hl)
  have HW : Hid (w0 = w.alloc (.cells #[.slice a T.length c] 24)) := hw0
  obtain ⟨r, hr⟩ : ∃ r, r = mayB T := ⟨_, rfl⟩
  rw [← hr]
  have KW : Hid (∀ W, Calls Tryd.prog 46 #[.int .i64 (nlv T : Nat)] W fun e w' => e = .returned (.int .i64 (wid (nlv T : Nat))) ∧ w' = W) := fun W => width_any _ W
  have KN : Hid (Wd T → ∀ W (x : Nat), Below w.heap.size w W → x < T.length → Calls Tryd.prog 47 #[.agg #[.slice a T.length c], .int .i64 (x : Int)] W fun e w' => e = .returned (.bool (ndM T x)) ∧ Below W.heap.size W w') := fun hw W x hW hx => nodeMay_any (h.bw hW) hw (hT.bw hW) hx
  have KT : Hid (T.length ≤ 15 → ∀ W, Below w.heap.size w W → Calls Tryd.prog 48 #[.agg #[.slice a T.length c]] W fun e w' => e = .returned (.bool (decide (¬ (mems T).Nodup))) ∧ Below W.heap.size W w') := fun hs W hW => twice_any (h.bw hW) hs
  have KA : Hid (T.length ≤ 15 → ∀ W, Below w.heap.size w W → Calls Tryd.prog 49 #[.agg #[.slice a T.length c], .int .i64 ((nlv T / 2 : Nat) : Int), .int .i64 (nlv T : Nat)] W fun e w' => e = .returned (.bool (anyM T (nlv T / 2) (nlv T))) ∧ Below W.heap.size W w') := fun hs W hW => anyMember_any (h.bw hW) hs _ _ (by omega) (Nat.le_refl _)
  have hnl : nlv T = (T.length + 1) / 2 := rfl
  have hlI : (T.length : Int) ≤ 140737488355328 := by omega
  rw [← hnl] at KL
  have HD : Hid (r = mayB T) := hr
  by_cases e0 : T.length = 0
  · obtain rfl : r = true := by
      rw [hr]; obtain rfl := List.eq_nil_of_length_eq_zero e0; rfl
    rw [e0] at *
    have hz := bx_bel (w := w) (v := .slice a 0 c) (Below.refl _ _)
    clear h hl hw0 hnl hr KL KW KN KT KA HD HB
    go_enter Tryd.func26, Tryd.ntmps26
    go_wp2
    go_ret
    exact ⟨rfl, bwA _ _⟩
  · have e1 : ((T.length : Int) == 0) = false := beq_false_of_ne (by omega)
    have e2 : decide ((T.length : Int) = 0) = false := decide_eq_false (by omega)
    have HE : Hid (r = (decide (nlv T ≤ 8) && decide (wid (nlv T : Nat) = (T.length : Nat)) && (List.range T.length).all (ndM T) && decide (mems T).Nodup && anyM T (nlv T / 2) (nlv T))) := by
      unfold Hid; rw [hr]; unfold mayB
      have : T.isEmpty = false := by cases T <;> simp_all
      rw [this]; simp
    have HS : Hid (nlv T ≤ 8 → wid (nlv T : Nat) = (T.length : Nat) → Wd T ∧ T.length ≤ 15) := fun q1 q2 => by
      obtain ⟨s1, s2⟩ := wid_small q1 (by omega) q2
      exact ⟨⟨nlv T, s1, s2⟩, by omega⟩
    generalize hn : nlv T = n at *
    have hn1 : (n : Int) ≤ 140737488355328 := by omega
    generalize hN : T.length = N at *
    have hNn : 0 < N := by omega
    clear h hl hw0 hnl hr HD e0 hn hN
    go_enter Tryd.func26, Tryd.ntmps26
    go_wp2_with fail
    rw [← unhide HW]
    refine (unhide KL).mono ?_
    rintro e w1 ⟨rfl, b1⟩
    clear KL HW
    obtain ⟨c1, hbw⟩ := unhide HB _ b1
    by_cases g1 : n ≤ 8
    · have g2 : decide ((8 : Int) < (n : Int)) = false := decide_eq_false (by omega)
      have KW2 := fun m => unhide KW (w1.drewN m)
      have HS2 := hide (unhide HS g1)
      obtain ⟨wd, hwd⟩ : ∃ wd, wd = wid (n : Int) := ⟨_, rfl⟩
      rw [← hwd] at KW2 HE HS2
      clear hwd KW HS
      by_cases g3 : wd = (N : Int)
      · subst g3
        obtain ⟨hw, h15⟩ := unhide HS2 rfl
        have KN2 := hide (unhide KN hw)
        have KT2 := hide (unhide KT h15)
        have KA2 := hide (unhide KA h15)
        have HE2 : Hid (r = ((List.range N).all (ndM T) && (decide (mems T).Nodup && anyM T (n / 2) n))) := by
          unfold Hid; rw [unhide HE, decide_eq_true g1]; simp [Bool.and_assoc]
        have g4 : ((N : Int) != (N : Int)) = false := by simp
        clear KN KT KA HS2 HE hw
        go_wp2_with fail
        go_quiet (first | (go_at_call 46; exact Calls.quiet_of_same (KW2 _)))
        have b2 : Below w0.heap.size w0 (w1.drewN nq) := bw_tr b1 (below_drewN (Below.refl _ _) _)
        clear KW2
        generalize w1.drewN nq = w2 at *
        obtain ⟨c2, hbw2⟩ := unhide HB _ b2
        clear c1 hbw b1
        go_wp2_with fail
        go_loopw [24] (fun iv wr => ∃ i : Nat, iv = .int .i64 (i : Int) ∧ i ≤ N ∧ Hid ((List.range i).all (ndM T) = true) ∧ Below w0.heap.size w0 wr) (fun iv _ => (N - (intOf iv)).toNat)
        case atStart => exact ⟨0, rfl, by omega, rfl, b2⟩
        case round =>
          obtain ⟨i, rfl, hin, hall, hbel⟩ := hrel
          obtain ⟨c3, hbw3⟩ := unhide HB _ hbel
          clear c2 hbw2 b2
          by_cases hlt : i < N
          · have q1 : (i : Int) < (N : Int) := by omega
            have K := unhide KN2 wr i hbw3 hlt
            have HA : Hid ((List.range (i + 1)).all (ndM T) = ndM T i) := by unfold Hid; rw [all_succ, unhide hall]; rfl
            have HF : Hid (ndM T i = false → r = false) := fun q => by
              rw [unhide HE2]
              have : (List.range N).all (ndM T) = false := by
                rw [List.all_eq_false]; exact ⟨i, List.mem_range.2 hlt, by simp [q]⟩
              rw [this]; rfl
            generalize ndM T i = p at *
            go_wp2_with fail
            refine K.mono ?_
            rintro e w4 ⟨rfl, b4⟩
            have hbel4 := bw_tr hbel b4
            cases p
            · obtain rfl := unhide HF rfl
              clear HF
              go_wp2_with fail
              go_ret
              exact ⟨rfl, (unhide HB _ hbel4).2⟩
            · clear HF K
              go_wp2_with fail
              go_roundw
              case rel => exact ⟨i + 1, by go_num, by omega, HA, hbel4⟩
              case measure => simp [intOf]; omega
          · obtain rfl : i = N := by omega
            have HE3 : Hid (r = (decide (mems T).Nodup && anyM T (n / 2) n)) := by unfold Hid; rw [unhide HE2, unhide hall]; rfl
            have K := unhide KT2 wr hbw3
            have hn2 : (n : Int) / 2 = ((n / 2 : Nat) : Int) := by omega
            have hn8 : (n : Int) ≤ 8 := by omega
            have KA3 : Hid (∀ W, Below w0.heap.size w0 W → Calls Tryd.prog 49 #[.agg #[.slice a i c], .int .i64 ((n / 2 : Nat) : Int), .int .i64 (n : Nat)] W fun e w' => e = .returned (.bool (anyM T (n / 2) n)) ∧ Below W.heap.size W w') := fun W hW => unhide KA2 W (unhide HB _ hW).2
            obtain ⟨n2, hn3⟩ : ∃ n2, n2 = n / 2 := ⟨_, rfl⟩
            rw [← hn3] at KA3 HE3 hn2
            clear KA2 KT2 KN2 HE2 hn3
            by_cases hd : (mems T).Nodup
            · have e9 : decide (¬ (mems T).Nodup) = false := by simp [hd]
              rw [e9] at K
              obtain rfl : r = anyM T n2 n := by rw [unhide HE3, decide_eq_true hd]; rfl
              clear HE3 e9 hd
              go_wp2_with fail
              refine K.mono ?_
              rintro e w4 ⟨rfl, b4⟩
              have hbel4 := bw_tr hbel b4
              obtain ⟨c4, hbw4⟩ := unhide HB _ hbel4
              have K5 := unhide KA3 _ hbel4
              clear K KA3
              go_wp2_with fail
              refine K5.mono ?_
              rintro e w5 ⟨rfl, b5⟩
              go_wp2
              go_ret
              exact ⟨rfl, bw_tr hbw4 b5⟩
            · have e9 : decide (¬ (mems T).Nodup) = true := by simp [hd]
              rw [e9] at K
              obtain rfl : r = false := by rw [unhide HE3, decide_eq_false hd]; rfl
              clear HE3 e9 hd
              go_wp2_with fail
              refine K.mono ?_
              rintro e w4 ⟨rfl, b4⟩
              have hbel4 := bw_tr hbel b4
              obtain ⟨c4, hbw4⟩ := unhide HB _ hbel4
              go_wp2
              go_ret
              exact ⟨rfl, hbw4⟩
      · have g4 : (wd != (N : Int)) = true := by simp [g3]
        have g5 : decide (wd = (N : Int)) = false := decide_eq_false g3
        obtain rfl : r = false := by rw [unhide HE, g5]; simp
        clear HE HS2 KN KT KA g3
        go_wp2_with fail
        go_quiet (first | (go_at_call 46; exact Calls.quiet_of_same (KW2 _)))
        go_wp2
        go_ret
        exact ⟨rfl, bw_tr hbw (below_drewN (Below.refl _ _) _)⟩
    · have g2 : (8 : Int) < (n : Int) := by omega
      obtain rfl : r = false := by rw [unhide HE, decide_eq_false g1]; simp
      go_wp2_with fail
      go_quiet (fail)
      go_wp2
      go_ret
      exact ⟨rfl, bw_tr hbw (below_drewN (Below.refl _ _) _)⟩
end Go.Proofs.YtjjkhjiiakamaaaDoor
