/- The contracts of the document's other and asked. -/
import Derived.Test.YtpgppnmobbgefaaGreatDoorTeJ
namespace Go.Proofs.YtpgppnmobbgefaaGreatDoor
open Go.RowKit Go.Maps

theorem fin_oth : (sizes.all fun n => (List.range n).all fun i => ((upN n i).zip (sdN n i)).all fun p => decide (p.1 < 15) && decide (p.2 < 2 * n - 1) && decide ((lfV ((p.1 : Nat) : Int)) ≤ 15) && decide (0 ≤ (lfV ((p.1 : Nat) : Int))) && decide ((if wi ((2 * i : Nat) : Int) (lfV ((p.1 : Nat) : Int)) = true then rtV ((p.1 : Nat) : Int) else lfV ((p.1 : Nat) : Int)) = ((p.2 : Nat) : Int))) = true := by decide +kernel
theorem oth_of {n i : Nat} (hn : n ∈ sizes) (hi : i < n) {x s : Nat} (h : (x, s) ∈ (upN n i).zip (sdN n i)) : x < 15 ∧ s < 2 * n - 1 ∧ lfV (x : Int) ≤ 15 ∧ 0 ≤ lfV (x : Int) ∧ (if wi ((2 * i : Nat) : Int) (lfV (x : Int)) = true then rtV (x : Int) else lfV (x : Int)) = (s : Int) := by
  have h1 := List.all_eq_true.1 fin_oth n hn
  have h1 := List.all_eq_true.1 h1 i (List.mem_range.2 hi)
  have h1 := List.all_eq_true.1 h1 (x, s) h
  simp only [Bool.and_eq_true, decide_eq_true_eq] at h1
  exact ⟨h1.1.1.1.1, h1.1.1.1.2, h1.1.1.2, h1.1.2, h1.2⟩
set_option maxHeartbeats 1000000 in
theorem rother_at {n i : Nat} (hn : n ∈ sizes) (hi : i < n) {x s : Nat} (h : (x, s) ∈ (upN n i).zip (sdN n i)) (w : World) :
    Calls Tryz.prog 175 #[.int .i64 (x : Int), .int .i64 (i : Int)] w fun e w' => e = .returned (.int .i64 (s : Int)) ∧ w' = w := by
  obtain ⟨h1, h2, h3, h4, h5⟩ := oth_of hn hi h
  have hi8 : i < 8 := by simp [sizes] at hn; omega
  obtain ⟨y, hy⟩ : ∃ y, y = 2 * i := ⟨_, rfl⟩
  rw [← hy] at h5
  have KL := hide (rleft_any (x : Int) w (by omega))
  have KR := hide (rright_any (x : Int) w (by omega))
  have KW := hide (rwithin_any (y : Int) (lfV (x : Int)) w (by omega) (by omega))
  have q1 : 2 * (i : Int) = (y : Int) := by omega
  have q2 : (i : Int) ≤ 8 := by omega
  have q3 : (0 : Int) ≤ (i : Int) := by omega
  generalize wi (y : Int) (lfV (x : Int)) = p at *
  generalize lfV (x : Int) = l at *
  generalize rtV (x : Int) = r at *
  generalize lfB (x : Int) = lb at *
  generalize rtB (x : Int) = rb at *
  have H5 := hide h5
  clear h h1 h2 h3 h4 h5 hn hi hi8 hy
  go_enter Tryz.func175, Tryz.ntmps175
  go_wp2_with fail
  refine (unhide KL).mono ?_
  rintro e w1 ⟨rfl, rfl⟩
  go_wp2_with fail
  refine (unhide KR).mono ?_
  rintro e w1 ⟨rfl, rfl⟩
  go_wp2_with fail
  refine (unhide KW).mono ?_
  rintro e w1 ⟨rfl, rfl⟩
  clear KL KR KW
  cases p
  · obtain rfl : l = (s : Int) := by have := unhide H5; simpa using this
    go_wp2
    go_ret
    exact ⟨rfl, rfl⟩
  · obtain rfl : r = (s : Int) := by have := unhide H5; simpa using this
    go_wp2
    go_ret
    exact ⟨rfl, rfl⟩
set_option maxRecDepth 100000 in
set_option maxHeartbeats 2000000 in
theorem rasked_any {w : World} {v : Value} {T : List Nd} (h : Trd w v T) (i : Int) :
    Calls Tryz.prog 174 #[.agg #[v], .int .i64 i] w fun e w' => e = .returned (.int .i64 (askE T i)) ∧ Below w.heap.size w w' := by
  obtain ⟨a, c, rfl⟩ := h.slice
  obtain ⟨W0, hW0⟩ : ∃ W0, W0 = bxw w (.slice a T.length c) := ⟨_, rfl⟩
  have hb0 : Below w.heap.size w W0 := by rw [hW0]; exact bwA _ _
  have HB : Hid (∀ W, Below W0.heap.size W0 W → W.cell? ⟨w.heap.size, 0, none⟩ = some (.slice a T.length c) ∧ Below w.heap.size w W) := fun W hW => by subst hW0; exact ⟨bx_cell hW, bx_bel hW⟩
  have HW : Hid (W0 = w.alloc (.cells #[.slice a T.length c] 24)) := hW0
  have KC := hide (rcheck_any (h.bw hb0))
  obtain ⟨E, hE⟩ : ∃ E, E = askE T i := ⟨_, rfl⟩
  rw [← hE]
  unfold askE at hE
  cases hm : mayB T
  · obtain rfl : E = 1 := by rw [hE, if_pos hm]
    rw [hm] at KC
    clear hE hm h hW0
    generalize T.length = N at *
    go_enter Tryz.func174, Tryz.ntmps174
    go_wp2_with fail
    rw [← unhide HW]
    refine (unhide KC).mono ?_
    rintro e w1 ⟨rfl, b1⟩
    obtain ⟨c0, hbw⟩ := unhide HB _ b1
    clear KC HW HB
    go_wp2
    go_ret
    exact ⟨rfl, hbw⟩
  rw [hm] at KC hE
  have h15 := (mayB_15 hm).1
  have hrl : rlv T.length = nlv T := by
    rcases mayB_wd hm with e | hw
    · subst e; rfl
    · obtain ⟨g1, g2, -⟩ := hw.facts
      have h3 := rlv_of g1
      rw [← g2] at h3
      exact h3
  have KL : Hid (∀ W, Calls Tryz.prog 48 #[.agg #[.slice a T.length c]] W fun e w' => e = .returned (.int .i64 (nlv T : Nat)) ∧ Below W.heap.size W w') := fun W => by have := rleaves_any a T.length c W h.len; rw [hrl] at this; exact this
  by_cases g0 : i < 0
  · obtain rfl : E = 7 := by
      rw [hE]; unfold hasL; rw [decide_eq_false (show ¬ 0 ≤ i by omega)]; rfl
    have g0' : decide (i < 0) = true := decide_eq_true g0
    clear hE hm h hW0 KL hrl
    generalize T.length = N at *
    go_enter Tryz.func174, Tryz.ntmps174
    go_wp2_with fail
    rw [← unhide HW]
    refine (unhide KC).mono ?_
    rintro e w1 ⟨rfl, b1⟩
    obtain ⟨c0, hbw⟩ := unhide HB _ b1
    clear KC HW HB
    go_wp2
    go_ret
    exact ⟨rfl, hbw⟩
  obtain ⟨n, rfl⟩ : ∃ n : Nat, i = n := ⟨i.toNat, by omega⟩
  by_cases g1 : n < nlv T
  · have hnl : nlv T = (T.length + 1) / 2 := rfl
    have hx2 : 2 * n < T.length := by
      rcases mayB_wd hm with e | hw
      · subst e; simp [nlv] at g1
      · obtain ⟨-, g2, -⟩ := hw.facts; omega
    have hE2 : E = if pos (ndAt T (2 * n)) = true then 0 else 7 := by
      rw [hE, hasL_lt (by rw [← hnl]; exact g1)]; cases pos (ndAt T (2 * n)) <;> rfl
    obtain ⟨x, hx⟩ : ∃ x, x = 2 * n := ⟨_, rfl⟩
    rw [← hx] at hE2 hx2
    obtain ⟨-, h2⟩ := h.at
    obtain ⟨b, o, rfl, h3⟩ := h2 (by omega)
    have HP : Hid (∀ W, Below w.heap.size w W → W.cell? ⟨b, o + x * 4, none⟩ = some (.int .i64 (ndAt T x).pub)) := fun W hW => by
      obtain ⟨u, k, _⟩ := h3 W hW x hx2; exact k.c0
    have hpp : pos (ndAt T x) = ((ndAt T x).pub != 0) := rfl
    rw [hpp] at hE2
    generalize (ndAt T x).pub = p at *
    have HE2 := hide hE2
    have q1 : 2 * (n : Int) = (x : Int) := by omega
    have q2 : (x : Int) < (T.length : Int) := by omega
    have q3 : (0 : Int) ≤ (x : Int) := by omega
    have q4 : (n : Int) < ((nlv T : Nat) : Int) := by omega
    have q5 : (0 : Int) ≤ (n : Int) := by omega
    have q6 : ((nlv T : Nat) : Int) ≤ 8 := by have := (mayB_15 hm).2; omega
    have q7 : (T.length : Int) ≤ 15 := by omega
    have q8 : decide (((nlv T : Nat) : Int) ≤ (n : Int)) = false := decide_eq_false (by omega)
    clear hE hE2 hm h hW0 hrl hnl h2 h3 hpp hx h15 g0
    generalize nlv T = m at *
    generalize T.length = N at *
    go_enter Tryz.func174, Tryz.ntmps174
    go_wp2_with fail
    rw [← unhide HW]
    refine (unhide KC).mono ?_
    rintro e w1 ⟨rfl, b1⟩
    obtain ⟨c0, hbw⟩ := unhide HB _ b1
    clear KC HW
    go_wp2_with fail
    refine (unhide KL _).mono ?_
    rintro e w2 ⟨rfl, b2⟩
    obtain ⟨c4, hbw2⟩ := unhide HB _ (bw_tr b1 b2)
    have c5 := unhide HP _ hbw2
    clear c0 HB KL HP b1 b2 hbw
    by_cases kp : p = 0
    · subst kp
      obtain rfl : E = 7 := by have := unhide HE2; simpa using this
      go_wp2
      go_ret
      exact ⟨rfl, hbw2⟩
    · obtain rfl : E = 0 := by have := unhide HE2; simpa [kp] using this
      have kp1 : (p == 0) = false := by simpa using kp
      have kp2 : decide (p = 0) = false := by simpa using kp
      clear HE2 kp
      go_wp2
      go_ret
      exact ⟨rfl, hbw2⟩
  · obtain rfl : E = 7 := by
      rw [hE, hasL_ge (show ¬ n < (T.length + 1) / 2 from g1)]; rfl
    have q4 : ((nlv T : Nat) : Int) ≤ (n : Int) := by omega
    have q5 : (0 : Int) ≤ (n : Int) := by omega
    have q8 : decide (((nlv T : Nat) : Int) ≤ (n : Int)) = true := decide_eq_true q4
    clear hE hm h hW0 hrl h15 g0 g1
    generalize nlv T = m at *
    generalize T.length = N at *
    go_enter Tryz.func174, Tryz.ntmps174
    go_wp2_with fail
    rw [← unhide HW]
    refine (unhide KC).mono ?_
    rintro e w1 ⟨rfl, b1⟩
    obtain ⟨c0, hbw⟩ := unhide HB _ b1
    clear KC HW
    go_wp2_with fail
    refine (unhide KL _).mono ?_
    rintro e w2 ⟨rfl, b2⟩
    obtain ⟨c4, hbw2⟩ := unhide HB _ (bw_tr b1 b2)
    clear c0 HB KL b1 b2 hbw
    go_wp2
    go_ret
    exact ⟨rfl, hbw2⟩
end Go.Proofs.YtpgppnmobbgefaaGreatDoor
