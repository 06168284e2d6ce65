/- Contracts of the small functions of package index: Level and what leans on it. -/
import Derived.Test.YtjjkhjiiakamaaaDoorProg
import Derived.Test.YtjjkhjiiakamaaaDoorIxBase
namespace Go.Proofs.YtjjkhjiiakamaaaDoor
open Go.RowKit

theorem wrap_not (x : Int) (h0 : 0 ≤ x) (h1 : x < 18446744073709551616) : IntKind.u64.wrap (-(x) - 1) = 18446744073709551615 - x := by
  rw [IntKind.wrap_u64]; omega

theorem wrap64_id {a : Int} (h1 : -9223372036854775808 ≤ a) (h2 : a ≤ 9223372036854775807) : wrap64 a = a := by
  unfold wrap64; omega
theorem wrap_pow {k p : Nat} (h : k < 63) (hp : p = 2 ^ k) : wrap64 ((2 : Int) ^ k) = (p : Int) := by
  have h62 := two_pow_62 h
  have e : (2 : Int) ^ k = (p : Int) := by rw [hp]; simp
  rw [e]
  rw [← hp] at h62
  exact wrap64_id (by omega) (by omega)

set_option maxHeartbeats 1000000 in
theorem tz64_core (x k idx : Nat) (w : World) (hx0 : ((x : Int) == 0) = false)
    (key : IntKind.u64.wrap (bits BinOp.and IntKind.u64 (x : Int) (IntKind.u64.wrap (-(x : Int))) * 285870213051353865) / 288230376151711744 = (idx : Int))
    (hi : idx < 64) (hk : k < 64) (hcell : w.cell? ⟨0, idx, none⟩ = some (.int .u8 k)) :
    Calls Tryd.prog 74 #[.int .u64 x] w fun e w' => e = .returned (.int .i64 k) ∧ w' = w := by
  go_enter Tryd.func74, Tryd.ntmps74
  go_wp2_with (simp only [key])
  go_ret
  exact ⟨rfl, rfl⟩

/-- The table of math/bits stands in its variable. -/
def Tab (w : World) : Prop := TabAt 0 Lib.deBruijn64tab w

theorem tz64_any (x : Nat) (hx : x < 18446744073709551616) (hx0 : x ≠ 0) (w : World) (hT : Tab w) :
    Calls Tryd.prog 74 #[.int .u64 x] w fun e w' => e = .returned (.int .i64 (Lib.ctz 64 x)) ∧ w' = w := by
  obtain ⟨hlow, hk⟩ := Lib.lowest_bit 64 x hx0 hx
  obtain ⟨hi, htab⟩ := Lib.deBruijn64_at _ hk
  have hcell := hT _ hi
  rw [htab] at hcell
  exact tz64_core x _ _ w (by simp; omega) (tz64_key x _ hx hx0 hlow) hi hk hcell

set_option maxHeartbeats 1000000 in
theorem level_any (x : Int) (w : World) (h2 : x ≤ 9223372036854775807) (hT : Tab w) :
    Calls Tryd.prog 61 #[.int .i64 x] w fun e w' => e = .returned (.int .i64 (lvl x)) ∧ w' = w := by
  by_cases h : x < 0
  · rw [lvl_neg h]
    go_enter Tryd.func61, Tryd.ntmps61
    go_wp2
    go_ret
    exact ⟨rfl, rfl⟩
  · obtain ⟨n, rfl⟩ : ∃ n : Nat, x = n := ⟨x.toNat, by omega⟩
    have e1 : IntKind.u64.wrap (n : Int) = n := by rw [IntKind.wrap_u64]; omega
    have K := tz64_any (18446744073709551615 - n) (by omega) (by omega) w hT
    have e3 : lvl (n : Int) = (Lib.ctz 64 (18446744073709551615 - n) : Nat) := by simp [lvl, h]
    rw [e3]
    generalize Lib.ctz 64 (18446744073709551615 - n) = z at K ⊢
    go_enter Tryd.func61, Tryd.ntmps61
    have e2 : bits BinOp.xor IntKind.u64 IntKind.u64.max (n : Int) = ((18446744073709551615 - n : Nat) : Int) := by
      have hm : IntKind.u64.max = ((18446744073709551615 : Nat) : Int) := by decide
      rw [hm, u64_xor _ _ (by omega) (by omega) (by omega) (by omega)]
      simp only [Int.toNat_natCast]
      rw [Nat.xor_comm, nat_xor_ones n (by omega)]
    go_wp2_with fail
    refine K.mono ?_
    rintro e w1 ⟨rfl, rfl⟩
    go_wp2
    go_ret
    exact ⟨rfl, rfl⟩

set_option maxHeartbeats 1000000 in
theorem isParent_any (x : Int) (w : World) (h2 : x ≤ 9223372036854775807) (hT : Tab w) :
    Calls Tryd.prog 72 #[.int .i64 x] w fun e w' => e = .returned (.bool (decide (0 < lvl x))) ∧ w' = w := by
  go_enter Tryd.func72, Tryd.ntmps72
  go_wp2_with fail
  refine (level_any x w h2 hT).mono ?_
  rintro e w1 ⟨rfl, rfl⟩
  go_wp2
  go_ret
  exact ⟨rfl, rfl⟩

set_option maxHeartbeats 1000000 in
theorem step_any (k m : Nat) (w : World) (h2 : nd (k + 1) m < 9223372036854775808) (hT : Tab w) :
    Calls Tryd.prog 73 #[.int .i64 (nd (k + 1) m : Nat)] w fun e w' => e = .returned (.int .i64 (2 ^ k : Nat)) ∧ w' = w := by
  have hk := nd_lt h2
  have K := level_any (nd (k + 1) m : Nat) w (by omega) hT
  rw [lvl_nd h2] at K
  obtain ⟨p, hp⟩ : ∃ p, p = 2 ^ k := ⟨_, rfl⟩
  have hw : wrap64 ((2 : Int) ^ k) = (p : Int) := wrap_pow (by omega) hp
  rw [← hp]
  clear hp
  go_enter Tryd.func73, Tryd.ntmps73
  go_wp2_with fail
  refine K.mono ?_
  rintro e w1 ⟨rfl, rfl⟩
  go_wp2_with fail
  simp only [hw]
  go_ret
  exact ⟨rfl, rfl⟩

set_option maxHeartbeats 1000000 in
theorem left_any (x : Int) (w : World) (h2 : x ≤ 9223372036854775807) (hT : Tab w) :
    Calls Tryd.prog 56 #[.int .i64 x] w fun e w' => e = .returned (.tuple #[.int .i64 (lfV x), .bool (lfB x)]) ∧ w' = w := by
  have K := isParent_any x w h2 hT
  rcases lvl_cases x h2 with ⟨h, hl⟩ | ⟨m, rfl, hb, hl⟩ | ⟨k, m, rfl, hb, hl⟩
  · simp only [lfV, lfB, hl] at K ⊢
    go_enter Tryd.func56, Tryd.ntmps56
    go_wp2_with fail
    refine K.mono ?_
    rintro e w1 ⟨rfl, rfl⟩
    go_wp2
    go_ret2
    exact ⟨rfl, rfl⟩
  · simp only [lfV, lfB, hl] at K ⊢
    go_enter Tryd.func56, Tryd.ntmps56
    go_wp2_with fail
    refine K.mono ?_
    rintro e w1 ⟨rfl, rfl⟩
    go_wp2
    go_ret2
    exact ⟨rfl, rfl⟩
  · have K2 := step_any k m w hb hT
    have hp : (0 : Int) < ((k + 1 : Nat) : Int) := by omega
    have e1 : nd (k + 1) m + 1 ≥ 2 ^ k := by
      rw [nd_succ, Nat.pow_succ]
      exact Nat.le_trans (Nat.le_mul_of_pos_right _ (by decide)) (Nat.le_mul_of_pos_right _ (by omega))
    simp only [lfV, lfB, hf, hl, hp, if_true, Int.toNat_natCast, Nat.add_sub_cancel, decide_true] at K ⊢
    clear hl hp
    generalize 2 ^ k = p at *
    generalize nd (k + 1) m = X at *
    have hw : wrap64 ((X : Int) - (p : Int)) = (X : Int) - (p : Int) := wrap64_id (by omega) (by omega)
    clear hb
    go_enter Tryd.func56, Tryd.ntmps56
    go_wp2_with fail
    refine K.mono ?_
    rintro e w1 ⟨rfl, rfl⟩
    go_wp2_with fail
    refine K2.mono ?_
    rintro e w1 ⟨rfl, rfl⟩
    go_wp2
    go_ret2
    exact ⟨rfl, rfl⟩

end Go.Proofs.YtjjkhjiiakamaaaDoor
