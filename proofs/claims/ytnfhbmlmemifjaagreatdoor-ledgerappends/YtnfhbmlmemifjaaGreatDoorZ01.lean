/- Texts joined: IxA IxA2. -/
import Derived.Test.YtnfhbmlmemifjaaGreatDoorProg
import Derived.Test.YtnfhbmlmemifjaaGreatDoorIxBase
/- Contracts of the small functions of package index: Level and what leans on it. -/
namespace Go.Proofs.YtnfhbmlmemifjaaGreatDoor
open Go.RowKit
theorem wrap64_id {a : Int} (h1 : -9223372036854775808 ≤ a) (h2 : a ≤ 9223372036854775807) : wrap64 a = a := by
  unfold wrap64; omega
theorem wrap_pow {k p : Nat} (h : k < 63) (hp : p = 2 ^ k) : wrap64 ((2 : Int) ^ k) = (p : Int) := by
  have h62 := two_pow_62 h
  have e : (2 : Int) ^ k = (p : Int) := by rw [hp]; simp
  rw [e]
  rw [← hp] at h62
  exact wrap64_id (by omega) (by omega)
set_option maxHeartbeats 1000000 in
theorem tz64_core (x k idx : Nat) (w : World) (hx0 : ((x : Int) == 0) = false)
    (key : IntKind.u64.wrap (bits BinOp.and IntKind.u64 (x : Int) (IntKind.u64.wrap (-(x : Int))) * 285870213051353865) / 288230376151711744 = (idx : Int))
    (hi : idx < 64) (hk : k < 64) (hcell : w.cell? ⟨0, idx, none⟩ = some (.int .u8 k)) :
    Calls Tryz.prog 317 #[.int .u64 x] w fun e w' => e = .returned (.int .i64 k) ∧ w' = w := by
  go_enter Tryz.func317, Tryz.ntmps317
  go_wp2_with (simp only [key])
  go_ret
  exact ⟨rfl, rfl⟩
def Tab (w : World) : Prop := TabAt 0 Lib.deBruijn64tab w
theorem tz64_any (x : Nat) (hx : x < 18446744073709551616) (hx0 : x ≠ 0) (w : World) (hT : Tab w) :
    Calls Tryz.prog 317 #[.int .u64 x] w fun e w' => e = .returned (.int .i64 (Lib.ctz 64 x)) ∧ w' = w := by
  obtain ⟨hlow, hk⟩ := Lib.lowest_bit 64 x hx0 hx
  obtain ⟨hi, htab⟩ := Lib.deBruijn64_at _ hk
  have hcell := hT _ hi
  rw [htab] at hcell
  exact tz64_core x _ _ w (by simp; omega) (tz64_key x _ hx hx0 hlow) hi hk hcell
set_option maxHeartbeats 1000000 in
theorem level_any (x : Int) (w : World) (h2 : x ≤ 9223372036854775807) (hT : Tab w) :
    Calls Tryz.prog 305 #[.int .i64 x] w fun e w' => e = .returned (.int .i64 (lvl x)) ∧ w' = w := by
  by_cases h : x < 0
  · rw [lvl_neg h]
    go_enter Tryz.func305, Tryz.ntmps305
    go_wp2
    go_ret
    exact ⟨rfl, rfl⟩
  · obtain ⟨n, rfl⟩ : ∃ n : Nat, x = n := ⟨x.toNat, by omega⟩
    have e1 : IntKind.u64.wrap (n : Int) = n := by rw [IntKind.wrap_u64]; omega
    have K := tz64_any (18446744073709551615 - n) (by omega) (by omega) w hT
    have e3 : lvl (n : Int) = (Lib.ctz 64 (18446744073709551615 - n) : Nat) := by simp [lvl, h]
    rw [e3]
    generalize Lib.ctz 64 (18446744073709551615 - n) = z at K ⊢
    go_enter Tryz.func305, Tryz.ntmps305
    have e2 : bits BinOp.xor IntKind.u64 IntKind.u64.max (n : Int) = ((18446744073709551615 - n : Nat) : Int) := by
      have hm : IntKind.u64.max = ((18446744073709551615 : Nat) : Int) := by decide
      rw [hm, u64_xor _ _ (by omega) (by omega) (by omega) (by omega)]
      simp only [Int.toNat_natCast]
      rw [Nat.xor_comm, nat_xor_ones n (by omega)]
    go_wp2_with fail
    refine K.mono ?_
    rintro e w1 ⟨rfl, rfl⟩
    go_wp2
    go_ret
    exact ⟨rfl, rfl⟩
end Go.Proofs.YtnfhbmlmemifjaaGreatDoor

/- Contracts of the functions of package index that answer numbers and flags. -/
namespace Go.Proofs.YtnfhbmlmemifjaaGreatDoor
open Go.RowKit
set_option maxHeartbeats 1000000 in
theorem isTree_any (L : Int) (w : World) :
    Calls Tryz.prog 304 #[.int .i64 L] w fun e w' => e = .returned (.bool (isT L)) ∧ w' = w := by
  by_cases h1 : L < 1
  · rw [isT_small h1]
    go_enter Tryz.func304, Tryz.ntmps304
    go_wp2
    go_ret
    exact ⟨rfl, rfl⟩
  · by_cases h2 : 1073741824 < L
    · rw [isT_great h2]
      go_enter Tryz.func304, Tryz.ntmps304
      go_wp2
      go_ret
      exact ⟨rfl, rfl⟩
    · obtain ⟨n, rfl⟩ : ∃ n : Nat, L = n := ⟨L.toNat, by omega⟩
      have hk := isT_and (n := n) (by omega) (by omega)
      have ha : bits .and .i64 (n : Int) ((n : Int) - 1) = ((n &&& (n - 1) : Nat) : Int) := by
        have e : (n : Int) - 1 = ((n - 1 : Nat) : Int) := by omega
        rw [e]; exact i64_and_nat _ _ (by omega) (by omega)
      generalize n &&& (n - 1) = r at *
      cases e : isT (n : Int)
      · have hr : ((r : Int) == 0) = false := by
          rw [beq_eq_false_iff_ne]; intro c
          have := hk.2 (by omega); rw [e] at this; cases this
        clear hk e
        go_enter Tryz.func304, Tryz.ntmps304
        go_wp2
        go_ret
        exact ⟨rfl, rfl⟩
      · have hr : r = 0 := hk.1 e
        subst hr
        clear hk e
        go_enter Tryz.func304, Tryz.ntmps304
        go_wp2
        go_ret
        exact ⟨rfl, rfl⟩
set_option maxHeartbeats 1000000 in
theorem width_any (L : Int) (w : World) :
    Calls Tryz.prog 273 #[.int .i64 L] w fun e w' => e = .returned (.int .i64 (wid L)) ∧ w' = w := by
  have K := isTree_any L w
  cases e : isT L
  · rw [e] at K
    simp only [wid, e]
    go_enter Tryz.func273, Tryz.ntmps273
    go_wp2_with fail
    refine (K).mono ?_
    rintro e w1 ⟨rfl, rfl⟩
    go_wp2
    go_ret
    exact ⟨rfl, rfl⟩
  · rw [e] at K
    simp only [wid, e, if_true]
    have hb := isT_bounds e
    have hw : wrap64 (L * 2) = L * 2 := wrap64_id (by omega) (by omega)
    have hw0 : wrap64 (2 * L) = 2 * L := wrap64_id (by omega) (by omega)
    have hw1 : wrap64 (2 * L - 1) = 2 * L - 1 := wrap64_id (by omega) (by omega)
    have hw2 : wrap64 (L - 1) = L - 1 := wrap64_id (by omega) (by omega)
    clear e
    go_enter Tryz.func273, Tryz.ntmps273
    go_wp2_with fail
    refine (K).mono ?_
    rintro e w1 ⟨rfl, rfl⟩
    go_wp2
    go_ret
    exact ⟨rfl, rfl⟩
set_option maxHeartbeats 1000000 in
theorem span_any (x : Int) (w : World) (h2 : x ≤ 9223372036854775807) (hT : Tab w) :
    Calls Tryz.prog 318 #[.int .i64 x] w fun e w' => e = .returned (.tuple #[.int .i64 (spF x), .int .i64 (spT x)]) ∧ w' = w := by
  by_cases h0 : x < 0
  · simp only [spF, spT, h0, true_or, if_true]
    go_enter Tryz.func318, Tryz.ntmps318
    go_wp2
    go_ret2
    exact ⟨rfl, rfl⟩
  · by_cases h1 : x = 9223372036854775807
    · subst h1
      simp only [spF, spT, or_true, if_true]
      go_enter Tryz.func318, Tryz.ntmps318
      go_wp2
      go_ret2
      exact ⟨rfl, rfl⟩
    · have h3 : ¬ (x < 0 ∨ x = 9223372036854775807) := by omega
      have h1' : (x == 9223372036854775807) = false := by simpa using h1
      simp only [spF, spT, h3, if_false]
      obtain ⟨n, rfl⟩ : ∃ n : Nat, x = n := ⟨x.toNat, by omega⟩
      obtain ⟨k, m, rfl⟩ := exists_nd n
      have hb : nd k m < 9223372036854775808 := by omega
      have hk := nd_lt hb
      have hk2 : k < 63 := by
        rcases Nat.lt_or_ge k 63 with h | h
        · exact h
        · have e1 : k = 63 := by omega
          have e2 := hk.2 e1
          rw [e1, e2] at h1
          exact absurd rfl h1
      have K := level_any (nd k m : Nat) w (by omega) hT
      rw [lvl_nd hb] at K ⊢
      have hq := two_pow_62 hk2
      have hpos := Nat.two_pow_pos k
      have hroom := span_room hb hk2
      have e := nd_eq k m
      simp only [Int.toNat_natCast]
      obtain ⟨p, hp⟩ : ∃ p, p = 2 ^ k := ⟨_, rfl⟩
      have hw : wrap64 ((2 : Int) ^ k) = (p : Int) := wrap_pow (by omega) hp
      rw [← hp] at hq hpos hroom e ⊢
      generalize p * m = q at *
      have hc : ((p - 1 : Nat) : Int) = (p : Int) - 1 := by omega
      rw [hc]
      generalize nd k m = X at *
      have hw1 : wrap64 ((p : Int) - 1) = (p : Int) - 1 := wrap64_id (by omega) (by omega)
      have hw2 : wrap64 ((X : Int) - ((p : Int) - 1)) = (X : Int) - ((p : Int) - 1) := wrap64_id (by omega) (by omega)
      have hw3 : wrap64 ((X : Int) + ((p : Int) - 1)) = (X : Int) + ((p : Int) - 1) := wrap64_id (by omega) (by omega)
      have t1 : Int.tdiv ((X : Int) - ((p : Int) - 1)) 2 = ((X : Int) - ((p : Int) - 1)) / 2 := Int.tdiv_eq_ediv_of_nonneg (by omega)
      have t2 : Int.tdiv ((X : Int) + ((p : Int) - 1)) 2 = ((X : Int) + ((p : Int) - 1)) / 2 := Int.tdiv_eq_ediv_of_nonneg (by omega)
      have b1 : -9223372036854775808 ≤ ((X : Int) - ((p : Int) - 1)) / 2 ∧ ((X : Int) - ((p : Int) - 1)) / 2 ≤ 9223372036854775807 := by omega
      have b2 : -9223372036854775808 ≤ ((X : Int) + ((p : Int) - 1)) / 2 ∧ ((X : Int) + ((p : Int) - 1)) / 2 ≤ 9223372036854775807 := by omega
      have hw4 := wrap64_id b1.1 b1.2
      have hw5 := wrap64_id b2.1 b2.2
      clear hp h1 h3 hk e hb hc hq hpos hroom b1 b2
      go_enter Tryz.func318, Tryz.ntmps318
      go_wp2_with fail
      refine (K).mono ?_
      rintro e w1 ⟨rfl, rfl⟩
      go_wp2
      simp only [hw4, hw5]
      go_ret2
      exact ⟨rfl, rfl⟩
end Go.Proofs.YtnfhbmlmemifjaaGreatDoor
