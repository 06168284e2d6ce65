/- Contracts of the document's own answers for layer 2: children and leaves. -/
import Derived.Test.YtocopmbdjopljaaGreatDoorIxRef
namespace Go.Proofs.YtocopmbdjopljaaGreatDoor
open Go.RowKit

theorem hf_cases (x : Int) (h2 : x ≤ 9223372036854775807) : (lvl x ≤ 0 ∧ hf x = 0) ∨ (∃ k m : Nat, x = (nd (k + 1) m : Nat) ∧ nd (k + 1) m < 9223372036854775808 ∧ 0 < lvl x ∧ hf x = ((2 ^ k : Nat) : Int) ∧ lvl x = ((k + 1 : Nat) : Int)) := by
  rcases lvl_cases x h2 with ⟨h, hl⟩ | ⟨m, rfl, hb, hl⟩ | ⟨k, m, rfl, hb, hl⟩
  · exact Or.inl ⟨by omega, if_neg (by omega)⟩
  · exact Or.inl ⟨by omega, if_neg (by omega)⟩
  · exact Or.inr ⟨k, m, rfl, hb, by omega, by unfold hf; rw [if_pos (by rw [hl]; omega), hl, Int.toNat_natCast, Nat.add_sub_cancel], hl⟩

set_option maxHeartbeats 1000000 in
theorem rleft_any (x : Int) (w : World) (h2 : x ≤ 9223372036854775807) :
    Calls Tryz.prog 267 #[.int .i64 x] w fun e w' => e = .returned (.tuple #[.int .i64 (lfV x), .bool (lfB x)]) ∧ w' = w := by
  have K := rhalf_any x w h2
  rcases hf_cases x h2 with ⟨hl, hh⟩ | ⟨k, m, rfl, hb, hl, hh, _⟩
  · have h0 : ¬ 0 < lvl x := by omega
    simp only [lfV, lfB, h0, if_false, decide_false]
    rw [hh] at K
    clear hh hl h0
    go_enter Tryz.func267, Tryz.ntmps267
    go_wp2_with fail
    refine (K).mono ?_
    rintro e w ⟨rfl, rfl⟩
    go_wp2
    go_ret2
    exact ⟨rfl, rfl⟩
  · simp only [lfV, lfB, hl, if_true, decide_true]
    rw [hh] at K
    rw [hh]
    have hpos := Nat.two_pow_pos k
    have e := nd_succ (k + 1) m
    have hle : 2 ^ k ≤ 2 ^ (k + 1) * (2 * m + 1) := by
      rw [Nat.pow_succ]; exact Nat.le_trans (Nat.le_mul_of_pos_right _ (by decide)) (Nat.le_mul_of_pos_right _ (by omega))
    rw [← e] at hle
    clear hh hl e
    generalize 2 ^ k = p at *
    generalize nd (k + 1) m = X at *
    have hw : wrap64 ((X : Int) - (p : Int)) = (X : Int) - (p : Int) := wrap64_id (by omega) (by omega)
    have h0 : ((p : Int) == 0) = false := by rw [beq_eq_false_iff_ne]; omega
    go_enter Tryz.func267, Tryz.ntmps267
    go_wp2_with fail
    refine (K).mono ?_
    rintro e w ⟨rfl, rfl⟩
    go_wp2
    go_ret2
    exact ⟨rfl, rfl⟩

set_option maxHeartbeats 1000000 in
theorem rright_any (x : Int) (w : World) (h2 : x ≤ 9223372036854775807) :
    Calls Tryz.prog 268 #[.int .i64 x] w fun e w' => e = .returned (.tuple #[.int .i64 (rtV x), .bool (rtB x)]) ∧ w' = w := by
  have K := rhalf_any x w h2
  rcases hf_cases x h2 with ⟨hl, hh⟩ | ⟨k, m, rfl, hb, hl, hh, hl2⟩
  · have h0 : ¬ (0 < lvl x ∧ x ≠ 9223372036854775807) := by omega
    simp only [rtV, rtB, h0, if_false, decide_false]
    rw [hh] at K
    clear hh hl h0
    go_enter Tryz.func268, Tryz.ntmps268
    go_wp2_with fail
    refine (K).mono ?_
    rintro e w ⟨rfl, rfl⟩
    go_wp2
    go_ret2
    exact ⟨rfl, rfl⟩
  · have hroom := right_room hb
    have hpos := Nat.two_pow_pos k
    rw [hh] at K
    simp only [rtV, rtB, hl, true_and, hh]
    have hk62 := two_pow_62 (show k < 63 by have := (nd_lt hb).1; omega)
    clear hh hl hl2
    generalize 2 ^ k = p at *
    generalize nd (k + 1) m = X at *
    have h0 : ((p : Int) == 0) = false := by rw [beq_eq_false_iff_ne]; omega
    have hw0 : wrap64 (9223372036854775807 - (p : Int)) = 9223372036854775807 - (p : Int) := wrap64_id (by omega) (by omega)
    by_cases hX : (X : Int) = 9223372036854775807
    · have hgt : 9223372036854775807 - (p : Int) < (X : Int) := by omega
      simp only [hX, ne_eq, not_true_eq_false, if_false, decide_false]
      rw [hX] at K hgt
      clear hroom h2 hb hX
      go_enter Tryz.func268, Tryz.ntmps268
      go_wp2_with fail
      refine (K).mono ?_
      rintro e w ⟨rfl, rfl⟩
      go_wp2
      go_ret2
      exact ⟨rfl, rfl⟩
    · have hr := hroom hX
      have hgt : ¬ 9223372036854775807 - (p : Int) < (X : Int) := by omega
      have hw : wrap64 ((X : Int) + (p : Int)) = (X : Int) + (p : Int) := wrap64_id (by omega) (by omega)
      simp only [hX, ne_eq, not_false_eq_true, if_true, decide_true]
      clear hroom hX
      go_enter Tryz.func268, Tryz.ntmps268
      go_wp2_with fail
      refine (K).mono ?_
      rintro e w ⟨rfl, rfl⟩
      go_wp2
      go_ret2
      exact ⟨rfl, rfl⟩

theorem span_arith (X p q : Nat) (hX : X = 4 * q + 2 * p - 1) (hpos : 0 < p) (hs : X + 2 * p < 9223372036854775808) :
    ((p * 2 - 1 : Nat) : Int) = 2 * (p : Int) - 1 ∧ ((X : Int) + (2 * (p : Int) - 1)) / 2 = (X : Int) / 2 + (p : Int) ∧ wrap64 (2 * (p : Int)) = 2 * (p : Int) ∧ wrap64 (2 * (p : Int) - 1) = 2 * (p : Int) - 1 ∧
    wrap64 ((X : Int) - (2 * (p : Int) - 1)) = (X : Int) - (2 * (p : Int) - 1) ∧ ((2 * (p : Int)) == 0) = false ∧ Int.tdiv ((X : Int) - (2 * (p : Int) - 1)) 2 = ((X : Int) - (2 * (p : Int) - 1)) / 2 ∧ Int.tdiv (X : Int) 2 = (X : Int) / 2 ∧
    Int.tdiv (2 * (p : Int)) 2 = (p : Int) ∧ (2 * (p : Int)) / 2 = (p : Int) ∧ wrap64 (((X : Int) - (2 * (p : Int) - 1)) / 2) = ((X : Int) - (2 * (p : Int) - 1)) / 2 ∧ wrap64 ((X : Int) / 2) = (X : Int) / 2 ∧
    wrap64 ((X : Int) / 2 + (p : Int)) = (X : Int) / 2 + (p : Int) ∧ wrap64 (p : Int) = (p : Int) := by
  have h1 : (X : Int) = 2 * (2 * (q : Int) + (p : Int) - 1) + 1 := by omega
  have h2 : (X : Int) / 2 = 2 * (q : Int) + (p : Int) - 1 := by rw [h1]; omega
  have h3 : (X : Int) - (2 * (p : Int) - 1) = 2 * (2 * (q : Int)) := by omega
  have h4 : (2 * (2 * (q : Int))) / 2 = 2 * (q : Int) := by omega
  have h5 : (X : Int) + (2 * (p : Int) - 1) = 2 * (2 * (q : Int) + 2 * (p : Int) - 1) := by omega
  have h6 : (2 * (2 * (q : Int) + 2 * (p : Int) - 1)) / 2 = 2 * (q : Int) + 2 * (p : Int) - 1 := by omega
  have b1 : 0 ≤ (q : Int) := by omega
  have b2 : 0 < (p : Int) := by omega
  have b3 : 4 * (q : Int) + 4 * (p : Int) ≤ 9223372036854775808 := by omega
  clear hX hs hpos h1
  rw [h2, h3, h4, h5, h6]
  generalize (q : Int) = Q at *
  refine ⟨by omega, by omega, wrap64_id (by omega) (by omega), wrap64_id (by omega) (by omega), wrap64_id (by omega) (by omega), by rw [beq_eq_false_iff_ne]; omega, by rw [Int.tdiv_eq_ediv_of_nonneg (by omega)]; omega, by rw [Int.tdiv_eq_ediv_of_nonneg (by omega)]; exact h2, by rw [Int.tdiv_eq_ediv_of_nonneg (by omega)]; omega, by omega, wrap64_id (by omega) (by omega), wrap64_id (by omega) (by omega), wrap64_id (by omega) (by omega), wrap64_id (by omega) (by omega)⟩

set_option maxHeartbeats 1000000 in
theorem rspan_any (x : Int) (w : World) (h2 : x ≤ 9223372036854775807) :
    Calls Tryz.prog 190 #[.int .i64 x] w fun e w' => e = .returned (.tuple #[.int .i64 (spF x), .int .i64 (spT x)]) ∧ w' = w := by
  have K := rhalf_any x w h2
  by_cases h0 : x < 0
  · simp only [spF, spT, h0, true_or, if_true]
    clear K
    go_enter Tryz.func190, Tryz.ntmps190
    go_wp2
    go_ret2
    exact ⟨rfl, rfl⟩
  · by_cases h1 : x = 9223372036854775807
    · subst h1
      simp only [spF, spT, or_true, if_true]
      clear K
      go_enter Tryz.func190, Tryz.ntmps190
      go_wp2
      go_ret2
      exact ⟨rfl, rfl⟩
    · have h3 : ¬ (x < 0 ∨ x = 9223372036854775807) := by omega
      have h1' : (x == 9223372036854775807) = false := by simpa using h1
      simp only [spF, spT, h3, if_false]
      rcases hf_cases x h2 with ⟨hl, hh⟩ | ⟨k, m, rfl, hb, hl, hh, hl2⟩
      · have hl0 : (lvl x).toNat = 0 := by omega
        rw [hl0]
        rw [hh] at K
        have t1 : Int.tdiv x 2 = x / 2 := Int.tdiv_eq_ediv_of_nonneg (by omega)
        have e1 : (x - ((2 ^ 0 - 1 : Nat) : Int)) / 2 = x / 2 := by simp
        have e2 : (x + ((2 ^ 0 - 1 : Nat) : Int)) / 2 = x / 2 := by simp
        rw [e1, e2]
        have hw : wrap64 (x / 2) = x / 2 := wrap64_id (by omega) (by omega)
        clear hh hl hl0 e1 e2 h3 h1
        go_enter Tryz.func190, Tryz.ntmps190
        go_wp2_with fail
        refine (K).mono ?_
        rintro e w ⟨rfl, rfl⟩
        go_wp2
        go_ret2
        exact ⟨rfl, rfl⟩
      · have hroom := right_room hb h1
        have hk := nd_lt hb
        have hk2 : k + 1 < 63 := by
          rcases Nat.lt_or_ge (k + 1) 63 with h | h
          · exact h
          · have e1 : k + 1 = 63 := by omega
            have e2 := hk.2 e1
            rw [e1, e2] at h1
            exact absurd rfl h1
        have hq := two_pow_62 hk2
        have hs := span_room hb hk2
        have e := nd_odd k m
        have e2 := nd_eq k m
        have hpos := Nat.two_pow_pos k
        rw [hl2, Int.toNat_natCast, Nat.pow_succ]
        rw [Nat.pow_succ] at hq hs
        rw [hh] at K
        clear hh hl hl2 hk hk2
        generalize 2 ^ k * m = q at *
        generalize 2 ^ k = p at *
        generalize nd k m = Y at *
        generalize nd (k + 1) m = X at *
        obtain ⟨hc, eT, hwa, hwb, hwc, n0, t1, t2, t3, t4, hw1, hw2, hw3, hw4⟩ := span_arith X p q (by omega) hpos (by omega)
        rw [hc, eT]
        clear e e2 hc eT h3 h1 hroom hs hq hb
        go_enter Tryz.func190, Tryz.ntmps190
        go_wp2_with fail
        refine (K).mono ?_
        rintro e w ⟨rfl, rfl⟩
        go_wp2
        simp only [hw1, hw2, hw3, hw4]
        go_ret2
        exact ⟨rfl, rfl⟩

end Go.Proofs.YtocopmbdjopljaaGreatDoor
