/- Contracts of the document's own answers for layer 2, those of one number. -/
import Derived.Test.YtjjkhjiiakamaaaDoorIxMem
namespace Go.Proofs.YtjjkhjiiakamaaaDoor
open Go.RowKit

theorem nd_zero (m : Nat) : nd 0 m = 2 * m := by simp [nd]
theorem nd_odd (k m : Nat) : nd (k + 1) m = 2 * nd k m + 1 := by
  have h1 := nd_succ (k + 1) m
  have h2 := nd_succ k m
  rw [Nat.pow_succ, Nat.mul_comm (2 ^ k) 2, Nat.mul_assoc] at h1
  omega

set_option maxHeartbeats 1000000 in
theorem rlevel_any (x : Int) (w : World) (h2 : x ≤ 9223372036854775807) :
    Calls Tryd.prog 58 #[.int .i64 x] w fun e w' => e = .returned (.int .i64 (lvl x)) ∧ w' = w := by
  by_cases h : x < 0
  · rw [lvl_neg h]
    go_enter Tryd.func58, Tryd.ntmps58
    go_wp2
    go_ret
    exact ⟨rfl, rfl⟩
  · obtain ⟨n, rfl⟩ : ∃ n : Nat, x = n := ⟨x.toNat, by omega⟩
    obtain ⟨k, m, rfl⟩ := exists_nd n
    have hb : nd k m < 9223372036854775808 := by omega
    rw [lvl_nd hb]
    have hk := (nd_lt hb).1
    have HE : Hid (nd k m = nd k m) := rfl
    have h0 : ¬ ((nd k m : Nat) : Int) < 0 := h
    generalize hX : nd k m = X at *
    have HX := hide hX
    clear hX h
    go_enter Tryd.func58, Tryd.ntmps58
    go_wp2_with fail
    go_loopw [0, 3] (fun xv nv wr => ∃ (Y c j : Nat), Hid (Y = nd c m) ∧ xv = .int .i64 Y ∧ nv = .int .i64 j ∧ j + c = k ∧ Y < 9223372036854775808 ∧ wr = w) (fun xv _ _ => (intOf xv).toNat)
    case atStart => exact ⟨X, k, 0, (unhide HX).symm, rfl, rfl, by omega, hb, rfl⟩
    case round =>
      obtain ⟨Y, c, j, hY, rfl, rfl, hjc, hYb, rfl⟩ := hrel
      cases c with
      | zero =>
        have e1 : Y % 2 = 0 := by rw [unhide hY, nd_zero]; omega
        have e2 : ((Y : Int) % 2) = 0 := by omega
        have e3 : Int.tmod (Y : Int) 2 = 0 := by rw [Int.tmod_eq_emod_of_nonneg (by omega)]; exact e2
        obtain rfl : j = k := by omega
        clear hY hjc
        go_wp2
        go_ret
        exact ⟨rfl, rfl⟩
      | succ c =>
        have e0 : Y = 2 * nd c m + 1 := by rw [unhide hY, nd_odd]
        have e1 : Y % 2 = 1 := by omega
        have e2 : ((Y : Int) % 2) = 1 := by omega
        have e3 : Int.tmod (Y : Int) 2 = 1 := by rw [Int.tmod_eq_emod_of_nonneg (by omega)]; exact e2
        have e4 : Int.tdiv (Y : Int) 2 = ((Y / 2 : Nat) : Int) := by rw [Int.tdiv_eq_ediv_of_nonneg (by omega)]; omega
        have e5 : Y / 2 = nd c m := by omega
        have HY := hide (And.intro e5 e0)
        clear hY e0 e5
        go_wp2_with fail
        go_roundw
        case rel => exact ⟨Y / 2, c, j + 1, (unhide HY).1, by go_num, by go_num, by omega, by omega, trivial⟩
        case measure => simp only [intOf]; omega

set_option maxHeartbeats 1000000 in
theorem rhalf_any (x : Int) (w : World) (h2 : x ≤ 9223372036854775807) :
    Calls Tryd.prog 42 #[.int .i64 x] w fun e w' => e = .returned (.int .i64 (hf x)) ∧ w' = w := by
  have K := rlevel_any x w h2
  rcases lvl_cases x h2 with ⟨h, hl⟩ | ⟨m, rfl, hb, hl⟩ | ⟨k, m, rfl, hb, hl⟩
  · rw [hl] at K
    have hh : hf _ = 0 := if_neg (by rw [hl]; decide)
    rw [hh]
    clear hh hl
    go_enter Tryd.func42, Tryd.ntmps42
    go_wp2_with fail
    refine (K).mono ?_
    rintro e w ⟨rfl, rfl⟩
    go_wp2
    go_ret
    exact ⟨rfl, rfl⟩
  · rw [hl] at K
    have hh : hf _ = 0 := if_neg (by rw [hl]; decide)
    rw [hh]
    clear hh hl
    go_enter Tryd.func42, Tryd.ntmps42
    go_wp2_with fail
    refine (K).mono ?_
    rintro e w ⟨rfl, rfl⟩
    go_wp2
    go_ret
    exact ⟨rfl, rfl⟩
  · rw [hl] at K
    have hk := (nd_lt hb).1
    have hh : hf (nd (k + 1) m : Nat) = ((2 ^ k : Nat) : Int) := by unfold hf; rw [if_pos (by rw [hl]; omega), hl, Int.toNat_natCast, Nat.add_sub_cancel]
    rw [hh]
    have hk62 : k ≤ 62 := by omega
    clear hh hl hb hk h2
    generalize nd (k + 1) m = X at *
    go_enter Tryd.func42, Tryd.ntmps42
    go_wp2_with fail
    refine (K).mono ?_
    rintro e w ⟨rfl, rfl⟩
    go_wp2_with fail
    go_loopw [4, 5] (fun nv iv wr => ∃ (i p : Nat), i ≤ k ∧ Hid (p = 2 ^ i) ∧ nv = .int .i64 p ∧ iv = .int .i64 ((i : Int) + 1) ∧ wr = w) (fun _ iv _ => (64 - intOf iv).toNat)
    case atStart => exact ⟨0, 1, by omega, by simp [Hid], rfl, rfl, rfl⟩
    case round =>
      obtain ⟨i, p, hi, hp, rfl, rfl, rfl⟩ := hrel
      have hb := two_pow_62 (show i < 63 by omega)
      rw [← unhide hp] at hb
      by_cases hik : i = k
      · subst hik
        go_wp2
        go_ret
        rw [← unhide hp]
        exact ⟨rfl, rfl⟩
      · have hlt : i < k := by omega
        have hb2 := two_pow_62 (show i + 1 < 63 by omega)
        rw [Nat.pow_succ, ← unhide hp] at hb2
        go_wp2_with fail
        go_roundw
        case rel => exact ⟨i + 1, p * 2, by omega, by unfold Hid; rw [unhide hp, Nat.pow_succ], by go_num, by go_num, trivial⟩
        case measure => simp only [intOf]; omega

end Go.Proofs.YtjjkhjiiakamaaaDoor
