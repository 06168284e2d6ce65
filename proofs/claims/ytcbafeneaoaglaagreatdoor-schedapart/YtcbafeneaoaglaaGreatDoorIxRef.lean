/- Contracts of the document's own answers for layer 2, those of one number. -/
import Derived.Test.YtcbafeneaoaglaaGreatDoorBaQ
namespace Go.Proofs.YtcbafeneaoaglaaGreatDoor
open Go.RowKit

set_option maxHeartbeats 1000000 in
theorem rtree_any (L : Int) (w : World) :
    Calls Tryz.prog 115 #[.int .i64 L] w fun e w' => e = .returned (.bool (isT L)) ∧ w' = w := by
  go_enter Tryz.func115, Tryz.ntmps115
  go_wp2_with fail
  go_loopw [3] (fun nv wr => ∃ (i p : Nat), i ≤ 31 ∧ Hid (p = 2 ^ i) ∧ nv = .int .i64 p ∧ Hid (∀ j, j < i → L ≠ ((2 ^ j : Nat) : Int)) ∧ wr = w) (fun nv _ => (2147483648 - intOf nv).toNat)
  case atStart => exact ⟨0, 1, by omega, by simp [Hid], rfl, fun j hj => by omega, rfl⟩
  case round =>
    obtain ⟨i, p, hi, hp, rfl, hno, rfl⟩ := hrel
    by_cases h31 : i = 31
    · subst h31
      have e31 : p = 2147483648 := by rw [unhide hp]
      subst e31
      have hd : isT L = false := by
        cases e : isT L
        · rfl
        · obtain ⟨d, hd, hL⟩ := isT_iff.1 e
          exact absurd hL (unhide hno d (by omega))
      have HD := hide hd
      clear hd hp hno hi
      go_wp2
      go_ret
      rw [unhide HD]
      exact ⟨rfl, rfl⟩
    · have hb := pow30 (show i ≤ 30 by omega)
      rw [← unhide hp] at hb
      have hpos := Nat.two_pow_pos i
      rw [← unhide hp] at hpos
      by_cases hL : L = (p : Int)
      · have ht : isT L = true := isT_iff.2 ⟨i, by omega, by rw [hL, unhide hp]⟩
        have HT := hide ht
        clear ht hno
        subst hL
        go_wp2
        go_ret
        rw [unhide HT]
        exact ⟨rfl, rfl⟩
      · have h1 : ((p : Int) == L) = false := by rw [beq_eq_false_iff_ne]; exact fun c => hL c.symm
        have h2 : (L == (p : Int)) = false := by rw [beq_eq_false_iff_ne]; exact hL
        have HN := hide hL
        clear hL
        go_wp2_with fail
        go_roundw
        case rel =>
          refine ⟨i + 1, p * 2, by omega, ?_, by go_num, ?_, trivial⟩
          · unfold Hid; rw [unhide hp, Nat.pow_succ]
          · intro j hj
            rcases Nat.lt_or_eq_of_le (Nat.le_of_lt_succ hj) with h | h
            · exact unhide hno j h
            · subst h; rw [← unhide hp]; exact unhide HN
        case measure => simp only [intOf]; omega

set_option maxHeartbeats 1000000 in
theorem rin_any (x L : Int) (w : World) :
    Calls Tryz.prog 108 #[.int .i64 x, .int .i64 L] w fun e w' => e = .returned (.bool (inn x L)) ∧ w' = w := by
  have K := rtree_any L w
  unfold inn
  cases e : isT L
  · rw [e] at K
    simp only [Bool.false_and]
    clear e
    go_enter Tryz.func108, Tryz.ntmps108
    go_wp2_with fail
    refine (K).mono ?_
    rintro e w ⟨rfl, rfl⟩
    go_wp2
    go_ret
    exact ⟨rfl, rfl⟩
  · rw [e] at K
    have hb := isT_bounds e
    have hw0 : wrap64 (2 * L) = 2 * L := wrap64_id (by omega) (by omega)
    have hw1 : wrap64 (2 * L - 2) = 2 * L - 2 := wrap64_id (by omega) (by omega)
    simp only [Bool.true_and]
    clear e
    by_cases h0 : 0 ≤ x
    · simp only [h0, decide_true, Bool.true_and]
      go_enter Tryz.func108, Tryz.ntmps108
      go_wp2_with fail
      refine (K).mono ?_
      rintro e w ⟨rfl, rfl⟩
      go_wp2
      go_ret
      exact ⟨rfl, rfl⟩
    · simp only [h0, decide_false, Bool.false_and]
      go_enter Tryz.func108, Tryz.ntmps108
      go_wp2_with fail
      refine (K).mono ?_
      rintro e w ⟨rfl, rfl⟩
      go_wp2
      go_ret
      exact ⟨rfl, rfl⟩

theorem nd_zero (m : Nat) : nd 0 m = 2 * m := by simp [nd]
theorem nd_odd (k m : Nat) : nd (k + 1) m = 2 * nd k m + 1 := by
  have h1 := nd_succ (k + 1) m
  have h2 := nd_succ k m
  rw [Nat.pow_succ, Nat.mul_comm (2 ^ k) 2, Nat.mul_assoc] at h1
  omega

set_option maxHeartbeats 1000000 in
theorem rlevel_any (x : Int) (w : World) (h2 : x ≤ 9223372036854775807) :
    Calls Tryz.prog 107 #[.int .i64 x] w fun e w' => e = .returned (.int .i64 (lvl x)) ∧ w' = w := by
  by_cases h : x < 0
  · rw [lvl_neg h]
    go_enter Tryz.func107, Tryz.ntmps107
    go_wp2
    go_ret
    exact ⟨rfl, rfl⟩
  · obtain ⟨n, rfl⟩ : ∃ n : Nat, x = n := ⟨x.toNat, by omega⟩
    obtain ⟨k, m, rfl⟩ := exists_nd n
    have hb : nd k m < 9223372036854775808 := by omega
    rw [lvl_nd hb]
    have hk := (nd_lt hb).1
    have HE : Hid (nd k m = nd k m) := rfl
    have h0 : ¬ ((nd k m : Nat) : Int) < 0 := h
    generalize hX : nd k m = X at *
    have HX := hide hX
    clear hX h
    go_enter Tryz.func107, Tryz.ntmps107
    go_wp2_with fail
    go_loopw [0, 3] (fun xv nv wr => ∃ (Y c j : Nat), Hid (Y = nd c m) ∧ xv = .int .i64 Y ∧ nv = .int .i64 j ∧ j + c = k ∧ Y < 9223372036854775808 ∧ wr = w) (fun xv _ _ => (intOf xv).toNat)
    case atStart => exact ⟨X, k, 0, (unhide HX).symm, rfl, rfl, by omega, hb, rfl⟩
    case round =>
      obtain ⟨Y, c, j, hY, rfl, rfl, hjc, hYb, rfl⟩ := hrel
      cases c with
      | zero =>
        have e1 : Y % 2 = 0 := by rw [unhide hY, nd_zero]; omega
        have e2 : ((Y : Int) % 2) = 0 := by omega
        have e3 : Int.tmod (Y : Int) 2 = 0 := by rw [Int.tmod_eq_emod_of_nonneg (by omega)]; exact e2
        obtain rfl : j = k := by omega
        clear hY hjc
        go_wp2
        go_ret
        exact ⟨rfl, rfl⟩
      | succ c =>
        have e0 : Y = 2 * nd c m + 1 := by rw [unhide hY, nd_odd]
        have e1 : Y % 2 = 1 := by omega
        have e2 : ((Y : Int) % 2) = 1 := by omega
        have e3 : Int.tmod (Y : Int) 2 = 1 := by rw [Int.tmod_eq_emod_of_nonneg (by omega)]; exact e2
        have e4 : Int.tdiv (Y : Int) 2 = ((Y / 2 : Nat) : Int) := by rw [Int.tdiv_eq_ediv_of_nonneg (by omega)]; omega
        have e5 : Y / 2 = nd c m := by omega
        have HY := hide (And.intro e5 e0)
        clear hY e0 e5
        go_wp2_with fail
        go_roundw
        case rel => exact ⟨Y / 2, c, j + 1, (unhide HY).1, by go_num, by go_num, by omega, by omega, trivial⟩
        case measure => simp only [intOf]; omega

set_option maxHeartbeats 1000000 in
theorem rhalf_any (x : Int) (w : World) (h2 : x ≤ 9223372036854775807) :
    Calls Tryz.prog 96 #[.int .i64 x] w fun e w' => e = .returned (.int .i64 (hf x)) ∧ w' = w := by
  have K := rlevel_any x w h2
  rcases lvl_cases x h2 with ⟨h, hl⟩ | ⟨m, rfl, hb, hl⟩ | ⟨k, m, rfl, hb, hl⟩
  · rw [hl] at K
    have hh : hf _ = 0 := if_neg (by rw [hl]; decide)
    rw [hh]
    clear hh hl
    go_enter Tryz.func96, Tryz.ntmps96
    go_wp2_with fail
    refine (K).mono ?_
    rintro e w ⟨rfl, rfl⟩
    go_wp2
    go_ret
    exact ⟨rfl, rfl⟩
  · rw [hl] at K
    have hh : hf _ = 0 := if_neg (by rw [hl]; decide)
    rw [hh]
    clear hh hl
    go_enter Tryz.func96, Tryz.ntmps96
    go_wp2_with fail
    refine (K).mono ?_
    rintro e w ⟨rfl, rfl⟩
    go_wp2
    go_ret
    exact ⟨rfl, rfl⟩
  · rw [hl] at K
    have hk := (nd_lt hb).1
    have hh : hf (nd (k + 1) m : Nat) = ((2 ^ k : Nat) : Int) := by unfold hf; rw [if_pos (by rw [hl]; omega), hl, Int.toNat_natCast, Nat.add_sub_cancel]
    rw [hh]
    have hk62 : k ≤ 62 := by omega
    clear hh hl hb hk h2
    generalize nd (k + 1) m = X at *
    go_enter Tryz.func96, Tryz.ntmps96
    go_wp2_with fail
    refine (K).mono ?_
    rintro e w ⟨rfl, rfl⟩
    go_wp2_with fail
    go_loopw [4, 5] (fun nv iv wr => ∃ (i p : Nat), i ≤ k ∧ Hid (p = 2 ^ i) ∧ nv = .int .i64 p ∧ iv = .int .i64 ((i : Int) + 1) ∧ wr = w) (fun _ iv _ => (64 - intOf iv).toNat)
    case atStart => exact ⟨0, 1, by omega, by simp [Hid], rfl, rfl, rfl⟩
    case round =>
      obtain ⟨i, p, hi, hp, rfl, rfl, rfl⟩ := hrel
      have hb := two_pow_62 (show i < 63 by omega)
      rw [← unhide hp] at hb
      by_cases hik : i = k
      · subst hik
        go_wp2
        go_ret
        rw [← unhide hp]
        exact ⟨rfl, rfl⟩
      · have hlt : i < k := by omega
        have hb2 := two_pow_62 (show i + 1 < 63 by omega)
        rw [Nat.pow_succ, ← unhide hp] at hb2
        go_wp2_with fail
        go_roundw
        case rel => exact ⟨i + 1, p * 2, by omega, by unfold Hid; rw [unhide hp, Nat.pow_succ], by go_num, by go_num, trivial⟩
        case measure => simp only [intOf]; omega

end Go.Proofs.YtcbafeneaoaglaaGreatDoor
