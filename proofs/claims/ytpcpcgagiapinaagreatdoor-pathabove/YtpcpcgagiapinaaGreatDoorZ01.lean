/- Texts joined: IxA IxA2. -/
import Derived.Test.YtpcpcgagiapinaaGreatDoorProg
import Derived.Test.YtpcpcgagiapinaaGreatDoorIxBase
/- Contracts of the small functions of package index: Level and what leans on it. -/
namespace Go.Proofs.YtpcpcgagiapinaaGreatDoor
open Go.RowKit
theorem wrap64_id {a : Int} (h1 : -9223372036854775808 ≤ a) (h2 : a ≤ 9223372036854775807) : wrap64 a = a := by
  unfold wrap64; omega
theorem wrap_pow {k p : Nat} (h : k < 63) (hp : p = 2 ^ k) : wrap64 ((2 : Int) ^ k) = (p : Int) := by
  have h62 := two_pow_62 h
  have e : (2 : Int) ^ k = (p : Int) := by rw [hp]; simp
  rw [e]
  rw [← hp] at h62
  exact wrap64_id (by omega) (by omega)
set_option maxHeartbeats 1000000 in
theorem tz64_core (x k idx : Nat) (w : World) (hx0 : ((x : Int) == 0) = false)
    (key : IntKind.u64.wrap (bits BinOp.and IntKind.u64 (x : Int) (IntKind.u64.wrap (-(x : Int))) * 285870213051353865) / 288230376151711744 = (idx : Int))
    (hi : idx < 64) (hk : k < 64) (hcell : w.cell? ⟨0, idx, none⟩ = some (.int .u8 k)) :
    Calls Tryz.prog 178 #[.int .u64 x] w fun e w' => e = .returned (.int .i64 k) ∧ w' = w := by
  go_enter Tryz.func178, Tryz.ntmps178
  go_wp2_with (simp only [key])
  go_ret
  exact ⟨rfl, rfl⟩
def Tab (w : World) : Prop := TabAt 0 Lib.deBruijn64tab w
theorem tz64_any (x : Nat) (hx : x < 18446744073709551616) (hx0 : x ≠ 0) (w : World) (hT : Tab w) :
    Calls Tryz.prog 178 #[.int .u64 x] w fun e w' => e = .returned (.int .i64 (Lib.ctz 64 x)) ∧ w' = w := by
  obtain ⟨hlow, hk⟩ := Lib.lowest_bit 64 x hx0 hx
  obtain ⟨hi, htab⟩ := Lib.deBruijn64_at _ hk
  have hcell := hT _ hi
  rw [htab] at hcell
  exact tz64_core x _ _ w (by simp; omega) (tz64_key x _ hx hx0 hlow) hi hk hcell
set_option maxHeartbeats 1000000 in
theorem level_any (x : Int) (w : World) (h2 : x ≤ 9223372036854775807) (hT : Tab w) :
    Calls Tryz.prog 149 #[.int .i64 x] w fun e w' => e = .returned (.int .i64 (lvl x)) ∧ w' = w := by
  by_cases h : x < 0
  · rw [lvl_neg h]
    go_enter Tryz.func149, Tryz.ntmps149
    go_wp2
    go_ret
    exact ⟨rfl, rfl⟩
  · obtain ⟨n, rfl⟩ : ∃ n : Nat, x = n := ⟨x.toNat, by omega⟩
    have e1 : IntKind.u64.wrap (n : Int) = n := by rw [IntKind.wrap_u64]; omega
    have K := tz64_any (18446744073709551615 - n) (by omega) (by omega) w hT
    have e3 : lvl (n : Int) = (Lib.ctz 64 (18446744073709551615 - n) : Nat) := by simp [lvl, h]
    rw [e3]
    generalize Lib.ctz 64 (18446744073709551615 - n) = z at K ⊢
    go_enter Tryz.func149, Tryz.ntmps149
    have e2 : bits BinOp.xor IntKind.u64 IntKind.u64.max (n : Int) = ((18446744073709551615 - n : Nat) : Int) := by
      have hm : IntKind.u64.max = ((18446744073709551615 : Nat) : Int) := by decide
      rw [hm, u64_xor _ _ (by omega) (by omega) (by omega) (by omega)]
      simp only [Int.toNat_natCast]
      rw [Nat.xor_comm, nat_xor_ones n (by omega)]
    go_wp2_with fail
    refine K.mono ?_
    rintro e w1 ⟨rfl, rfl⟩
    go_wp2
    go_ret
    exact ⟨rfl, rfl⟩
set_option maxHeartbeats 1000000 in
theorem isParent_any (x : Int) (w : World) (h2 : x ≤ 9223372036854775807) (hT : Tab w) :
    Calls Tryz.prog 189 #[.int .i64 x] w fun e w' => e = .returned (.bool (decide (0 < lvl x))) ∧ w' = w := by
  go_enter Tryz.func189, Tryz.ntmps189
  go_wp2_with fail
  refine (level_any x w h2 hT).mono ?_
  rintro e w1 ⟨rfl, rfl⟩
  go_wp2
  go_ret
  exact ⟨rfl, rfl⟩
set_option maxHeartbeats 1000000 in
theorem step_any (k m : Nat) (w : World) (h2 : nd (k + 1) m < 9223372036854775808) (hT : Tab w) :
    Calls Tryz.prog 190 #[.int .i64 (nd (k + 1) m : Nat)] w fun e w' => e = .returned (.int .i64 (2 ^ k : Nat)) ∧ w' = w := by
  have hk := nd_lt h2
  have K := level_any (nd (k + 1) m : Nat) w (by omega) hT
  rw [lvl_nd h2] at K
  obtain ⟨p, hp⟩ : ∃ p, p = 2 ^ k := ⟨_, rfl⟩
  have hw : wrap64 ((2 : Int) ^ k) = (p : Int) := wrap_pow (by omega) hp
  rw [← hp]
  clear hp
  go_enter Tryz.func190, Tryz.ntmps190
  go_wp2_with fail
  refine K.mono ?_
  rintro e w1 ⟨rfl, rfl⟩
  go_wp2_with fail
  simp only [hw]
  go_ret
  exact ⟨rfl, rfl⟩
set_option maxHeartbeats 1000000 in
theorem left_any (x : Int) (w : World) (h2 : x ≤ 9223372036854775807) (hT : Tab w) :
    Calls Tryz.prog 176 #[.int .i64 x] w fun e w' => e = .returned (.tuple #[.int .i64 (lfV x), .bool (lfB x)]) ∧ w' = w := by
  have K := isParent_any x w h2 hT
  rcases lvl_cases x h2 with ⟨h, hl⟩ | ⟨m, rfl, hb, hl⟩ | ⟨k, m, rfl, hb, hl⟩
  · simp only [lfV, lfB, hl] at K ⊢
    go_enter Tryz.func176, Tryz.ntmps176
    go_wp2_with fail
    refine K.mono ?_
    rintro e w1 ⟨rfl, rfl⟩
    go_wp2
    go_ret2
    exact ⟨rfl, rfl⟩
  · simp only [lfV, lfB, hl] at K ⊢
    go_enter Tryz.func176, Tryz.ntmps176
    go_wp2_with fail
    refine K.mono ?_
    rintro e w1 ⟨rfl, rfl⟩
    go_wp2
    go_ret2
    exact ⟨rfl, rfl⟩
  · have K2 := step_any k m w hb hT
    have hp : (0 : Int) < ((k + 1 : Nat) : Int) := by omega
    have e1 : nd (k + 1) m + 1 ≥ 2 ^ k := by
      rw [nd_succ, Nat.pow_succ]
      exact Nat.le_trans (Nat.le_mul_of_pos_right _ (by decide)) (Nat.le_mul_of_pos_right _ (by omega))
    simp only [lfV, lfB, hf, hl, hp, if_true, Int.toNat_natCast, Nat.add_sub_cancel, decide_true] at K ⊢
    clear hl hp
    generalize 2 ^ k = p at *
    generalize nd (k + 1) m = X at *
    have hw : wrap64 ((X : Int) - (p : Int)) = (X : Int) - (p : Int) := wrap64_id (by omega) (by omega)
    clear hb
    go_enter Tryz.func176, Tryz.ntmps176
    go_wp2_with fail
    refine K.mono ?_
    rintro e w1 ⟨rfl, rfl⟩
    go_wp2_with fail
    refine K2.mono ?_
    rintro e w1 ⟨rfl, rfl⟩
    go_wp2
    go_ret2
    exact ⟨rfl, rfl⟩
end Go.Proofs.YtpcpcgagiapinaaGreatDoor

/- Contracts of the functions of package index that answer numbers and flags. -/
namespace Go.Proofs.YtpcpcgagiapinaaGreatDoor
open Go.RowKit
set_option maxHeartbeats 1000000 in
theorem right_any (x : Int) (w : World) (h2 : x ≤ 9223372036854775807) (hT : Tab w) :
    Calls Tryz.prog 177 #[.int .i64 x] w fun e w' => e = .returned (.tuple #[.int .i64 (rtV x), .bool (rtB x)]) ∧ w' = w := by
  have K := isParent_any x w h2 hT
  rcases lvl_cases x h2 with ⟨h, hl⟩ | ⟨m, rfl, hb, hl⟩ | ⟨k, m, rfl, hb, hl⟩
  · simp only [rtV, rtB, hl] at K ⊢
    go_enter Tryz.func177, Tryz.ntmps177
    go_wp2_with fail
    refine (K).mono ?_
    rintro e w1 ⟨rfl, rfl⟩
    go_wp2
    go_ret2
    exact ⟨rfl, rfl⟩
  · simp only [rtV, rtB, hl] at K ⊢
    go_enter Tryz.func177, Tryz.ntmps177
    go_wp2_with fail
    refine (K).mono ?_
    rintro e w1 ⟨rfl, rfl⟩
    go_wp2
    go_ret2
    exact ⟨rfl, rfl⟩
  · have K2 := step_any k m w hb hT
    have hp : (0 : Int) < ((k + 1 : Nat) : Int) := by omega
    have hk := nd_lt hb
    have e1 : ((nd (k + 1) m : Nat) : Int) ≠ 9223372036854775807 → nd (k + 1) m + 2 ^ k < 9223372036854775808 := right_room hb
    simp only [rtV, rtB, hf, hl, hp, true_and, Int.toNat_natCast, Nat.add_sub_cancel, decide_true] at K ⊢
    clear hl hp
    generalize 2 ^ k = p at *
    generalize nd (k + 1) m = X at *
    by_cases hX : (X : Int) = 9223372036854775807
    · simp only [hX, ne_eq, not_true_eq_false, if_false, decide_false] at K ⊢
      go_enter Tryz.func177, Tryz.ntmps177
      go_wp2_with fail
      refine (K).mono ?_
      rintro e w1 ⟨rfl, rfl⟩
      go_wp2
      go_ret2
      exact ⟨rfl, rfl⟩
    · have e2 := e1 hX
      simp only [hX, ne_eq, not_false_eq_true, if_true, decide_true] at K ⊢
      have hw : wrap64 ((X : Int) + (p : Int)) = (X : Int) + (p : Int) := wrap64_id (by omega) (by omega)
      have hX' : ((X : Int) == 9223372036854775807) = false := by simpa using hX
      clear hb e1 hX
      go_enter Tryz.func177, Tryz.ntmps177
      go_wp2_with fail
      refine (K).mono ?_
      rintro e w1 ⟨rfl, rfl⟩
      go_wp2_with fail
      refine (K2).mono ?_
      rintro e w1 ⟨rfl, rfl⟩
      go_wp2
      go_ret2
      exact ⟨rfl, rfl⟩
set_option maxHeartbeats 1000000 in
theorem isTree_any (L : Int) (w : World) :
    Calls Tryz.prog 171 #[.int .i64 L] w fun e w' => e = .returned (.bool (isT L)) ∧ w' = w := by
  by_cases h1 : L < 1
  · rw [isT_small h1]
    go_enter Tryz.func171, Tryz.ntmps171
    go_wp2
    go_ret
    exact ⟨rfl, rfl⟩
  · by_cases h2 : 1073741824 < L
    · rw [isT_great h2]
      go_enter Tryz.func171, Tryz.ntmps171
      go_wp2
      go_ret
      exact ⟨rfl, rfl⟩
    · obtain ⟨n, rfl⟩ : ∃ n : Nat, L = n := ⟨L.toNat, by omega⟩
      have hk := isT_and (n := n) (by omega) (by omega)
      have ha : bits .and .i64 (n : Int) ((n : Int) - 1) = ((n &&& (n - 1) : Nat) : Int) := by
        have e : (n : Int) - 1 = ((n - 1 : Nat) : Int) := by omega
        rw [e]; exact i64_and_nat _ _ (by omega) (by omega)
      generalize n &&& (n - 1) = r at *
      cases e : isT (n : Int)
      · have hr : ((r : Int) == 0) = false := by
          rw [beq_eq_false_iff_ne]; intro c
          have := hk.2 (by omega); rw [e] at this; cases this
        clear hk e
        go_enter Tryz.func171, Tryz.ntmps171
        go_wp2
        go_ret
        exact ⟨rfl, rfl⟩
      · have hr : r = 0 := hk.1 e
        subst hr
        clear hk e
        go_enter Tryz.func171, Tryz.ntmps171
        go_wp2
        go_ret
        exact ⟨rfl, rfl⟩
set_option maxHeartbeats 1000000 in
theorem width_any (L : Int) (w : World) :
    Calls Tryz.prog 140 #[.int .i64 L] w fun e w' => e = .returned (.int .i64 (wid L)) ∧ w' = w := by
  have K := isTree_any L w
  cases e : isT L
  · rw [e] at K
    simp only [wid, e]
    go_enter Tryz.func140, Tryz.ntmps140
    go_wp2_with fail
    refine (K).mono ?_
    rintro e w1 ⟨rfl, rfl⟩
    go_wp2
    go_ret
    exact ⟨rfl, rfl⟩
  · rw [e] at K
    simp only [wid, e, if_true]
    have hb := isT_bounds e
    have hw : wrap64 (L * 2) = L * 2 := wrap64_id (by omega) (by omega)
    have hw0 : wrap64 (2 * L) = 2 * L := wrap64_id (by omega) (by omega)
    have hw1 : wrap64 (2 * L - 1) = 2 * L - 1 := wrap64_id (by omega) (by omega)
    have hw2 : wrap64 (L - 1) = L - 1 := wrap64_id (by omega) (by omega)
    clear e
    go_enter Tryz.func140, Tryz.ntmps140
    go_wp2_with fail
    refine (K).mono ?_
    rintro e w1 ⟨rfl, rfl⟩
    go_wp2
    go_ret
    exact ⟨rfl, rfl⟩
set_option maxHeartbeats 1000000 in
theorem root_any (L : Int) (w : World) :
    Calls Tryz.prog 157 #[.int .i64 L] w fun e w' => e = .returned (.int .i64 (rot L)) ∧ w' = w := by
  have K := isTree_any L w
  cases e : isT L
  · rw [e] at K
    simp only [rot, e]
    go_enter Tryz.func157, Tryz.ntmps157
    go_wp2_with fail
    refine (K).mono ?_
    rintro e w1 ⟨rfl, rfl⟩
    go_wp2
    go_ret
    exact ⟨rfl, rfl⟩
  · rw [e] at K
    simp only [rot, e, if_true]
    have hb := isT_bounds e
    have hw : wrap64 (L * 2) = L * 2 := wrap64_id (by omega) (by omega)
    have hw0 : wrap64 (2 * L) = 2 * L := wrap64_id (by omega) (by omega)
    have hw1 : wrap64 (2 * L - 1) = 2 * L - 1 := wrap64_id (by omega) (by omega)
    have hw2 : wrap64 (L - 1) = L - 1 := wrap64_id (by omega) (by omega)
    clear e
    go_enter Tryz.func157, Tryz.ntmps157
    go_wp2_with fail
    refine (K).mono ?_
    rintro e w1 ⟨rfl, rfl⟩
    go_wp2
    go_ret
    exact ⟨rfl, rfl⟩
theorem inn_wid (x L : Int) : inn x L = (decide (0 ≤ x) && decide (x < wid L)) := by
  unfold inn wid
  cases e : isT L
  · simp <;> omega
  · simp
    by_cases h0 : 0 ≤ x
    · simp only [h0, decide_true, Bool.true_and]
      congr 1
      simp; omega
    · simp [h0]
set_option maxHeartbeats 1000000 in
theorem has_any (L x : Int) (w : World) :
    Calls Tryz.prog 156 #[.int .i64 L, .int .i64 x] w fun e w' => e = .returned (.bool (inn x L)) ∧ w' = w := by
  have K := width_any L w
  rw [inn_wid]
  by_cases h0 : 0 ≤ x
  · simp only [h0, decide_true, Bool.true_and]
    generalize wid L = W at *
    go_enter Tryz.func156, Tryz.ntmps156
    go_wp2_with fail
    refine (K).mono ?_
    rintro e w1 ⟨rfl, rfl⟩
    go_wp2
    go_ret
    exact ⟨rfl, rfl⟩
  · simp only [h0, decide_false, Bool.false_and]
    clear K
    go_enter Tryz.func156, Tryz.ntmps156
    go_wp2
    go_ret
    exact ⟨rfl, rfl⟩
set_option maxHeartbeats 1000000 in
theorem above_any (k m : Nat) (w : World) (hb : nd k m < 4611686018427387904) (hk : k < 62) (hT : Tab w) :
    Calls Tryz.prog 158 #[.int .i64 (nd k m : Nat)] w fun e w' => e = .returned (.int .i64 (nd (k + 1) (m / 2) : Nat)) ∧ w' = w := by
  have K := level_any (nd k m : Nat) w (by omega) hT
  rw [lvl_nd (by omega)] at K
  have hq := two_pow_62 (show k < 63 by omega)
  have hq1 := two_pow_62 (show k + 1 < 63 by omega)
  obtain ⟨p, hp⟩ : ∃ p, p = 2 ^ k := ⟨_, rfl⟩
  have hw : wrap64 ((2 : Int) ^ k) = (p : Int) := wrap_pow (by omega) hp
  have hor := nd_or k m
  have hpos := Nat.two_pow_pos k
  have hp1 : p * 2 = 2 ^ (k + 1) := by rw [hp, Nat.pow_succ]
  have hlt : nd k m ||| 2 ^ k < 9223372036854775808 := by
    have : nd k m ||| 2 ^ k < 2 ^ 63 := Nat.or_lt_two_pow (by omega) (by omega)
    omega
  have ho : bits .or .i64 ((nd k m : Nat) : Int) (p : Int) = ((nd k m ||| 2 ^ k : Nat) : Int) := by
    rw [hp]; exact i64_or_nat _ _ (by omega) (by omega)
  have hn : bits .andNot .i64 ((nd k m ||| 2 ^ k : Nat) : Int) ((p : Int) * 2) = (nd (k + 1) (m / 2) : Nat) := by
    have e : (p : Int) * 2 = ((2 ^ (k + 1) : Nat) : Int) := by rw [← hp1]; simp
    rw [e, i64_andNot_nat _ _ hlt (by omega), hor, above_bits k m (by rw [← hor]; exact hlt)]
  have hw2 : wrap64 ((p : Int) * 2) = (p : Int) * 2 := wrap64_id (by omega) (by omega)
  generalize nd (k + 1) (m / 2) = Y at *
  generalize nd k m ||| 2 ^ k = Z at *
  generalize nd k m = X at *
  clear hq hq1 hp hor hpos hp1 hb hlt
  go_enter Tryz.func158, Tryz.ntmps158
  go_wp2_with fail
  refine (K).mono ?_
  rintro e w1 ⟨rfl, rfl⟩
  go_wp2
  go_ret
  exact ⟨rfl, rfl⟩
theorem parB_cases (x L : Int) : (inn x L = false ∧ parB x L = false) ∨ (inn x L = true ∧ x = L - 1 ∧ parB x L = false ∧ rot L = L - 1) ∨ (inn x L = true ∧ x ≠ L - 1 ∧ parB x L = true ∧ rot L = L - 1) := by
  unfold parB
  cases e : inn x L
  · simp
  · have ht : isT L = true := by unfold inn at e; cases h : isT L <;> simp_all
    by_cases h : x = L - 1
    · exact Or.inr (Or.inl ⟨rfl, h, by simp [h], by simp [rot, ht]⟩)
    · exact Or.inr (Or.inr ⟨rfl, h, by simp [h], by simp [rot, ht]⟩)
theorem parB_open {x L : Int} (h : parB x L = true) : ∃ d k m : Nat, d ≤ 30 ∧ L = ((2 ^ d : Nat) : Int) ∧ x = (nd k m : Nat) ∧ k < d ∧ m < 2 ^ (d - k) ∧ nd k m < 2147483647 := by
  have hi : inn x L = true := by unfold parB at h; cases e : inn x L <;> simp_all
  have ht : isT L = true := by unfold inn at hi; cases h : isT L <;> simp_all
  have h0 : 0 ≤ x := by simp [inn] at hi; omega
  obtain ⟨d, hd, rfl⟩ := isT_iff.1 ht
  obtain ⟨n, rfl⟩ : ∃ n : Nat, x = n := ⟨x.toNat, by omega⟩
  obtain ⟨k, m, rfl⟩ := exists_nd n
  obtain ⟨h1, h2⟩ := (parB_nd hd).1 h
  exact ⟨d, k, m, hd, rfl, rfl, h1, h2, nd_small hd (by omega) h2⟩
set_option maxHeartbeats 1000000 in
theorem parent_any (x L : Int) (w : World) (hT : Tab w) :
    Calls Tryz.prog 131 #[.int .i64 x, .int .i64 L] w fun e w' => e = .returned (.tuple #[.int .i64 (parV x L), .bool (parB x L)]) ∧ w' = w := by
  have K := has_any L x w
  have K1 := root_any L w
  rcases parB_cases x L with ⟨e1, e2⟩ | ⟨e1, e3, e2, e4⟩ | ⟨e1, e3, e2, e4⟩
  · rw [e1] at K
    simp only [parV, e2]
    clear e1 e2 K1
    go_enter Tryz.func131, Tryz.ntmps131
    go_wp2_with fail
    refine (K).mono ?_
    rintro e w1 ⟨rfl, rfl⟩
    go_wp2
    go_ret2
    exact ⟨rfl, rfl⟩
  · rw [e1] at K
    rw [e4, ← e3] at K1
    simp only [parV, e2]
    clear e1 e2 e3 e4
    go_enter Tryz.func131, Tryz.ntmps131
    go_wp2_with fail
    refine (K).mono ?_
    rintro e w1 ⟨rfl, rfl⟩
    go_wp2_with fail
    refine (K1).mono ?_
    rintro e w1 ⟨rfl, rfl⟩
    go_wp2
    go_ret2
    exact ⟨rfl, rfl⟩
  · rw [e1] at K
    rw [e4] at K1
    obtain ⟨d, k, m, hd, hL, rfl, hk, hm, hb⟩ := parB_open e2
    have K2 := above_any k m w (by omega) (by omega) hT
    rw [← abv_nd (by omega)] at K2
    simp only [parV, e2, if_true]
    generalize abv (nd k m : Nat) = A at *
    generalize (nd k m : Nat) = X at *
    have e5 : ((X : Int) == L - 1) = false := by simpa using e3
    clear e1 e2 e3 e4 hb hL hm hk hd
    go_enter Tryz.func131, Tryz.ntmps131
    go_wp2_with fail
    refine (K).mono ?_
    rintro e w1 ⟨rfl, rfl⟩
    go_wp2_with fail
    refine (K1).mono ?_
    rintro e w1 ⟨rfl, rfl⟩
    go_wp2_with fail
    refine (K2).mono ?_
    rintro e w1 ⟨rfl, rfl⟩
    go_wp2
    go_ret2
    exact ⟨rfl, rfl⟩
theorem abv_parent {k m d : Nat} (hd : d ≤ 30) (hk : k < d) (hm : m < 2 ^ (d - k)) : nd (k + 1) (m / 2) < 2147483647 ∧ m / 2 < 2 ^ (d - (k + 1)) := by
  have h2 : m / 2 < 2 ^ (d - (k + 1)) := by
    obtain ⟨c, hc⟩ : ∃ c, d - k = c + 1 := ⟨d - k - 1, by omega⟩
    have : d - (k + 1) = c := by omega
    rw [this]; rw [hc, Nat.pow_succ] at hm; omega
  exact ⟨nd_small hd (by omega) h2, h2⟩
theorem rtB_above {k m : Nat} (h : nd (k + 1) m < 2147483647) : rtB (nd (k + 1) m : Nat) = true ∧ lfB (nd (k + 1) m : Nat) = true := by
  have : lvl (nd (k + 1) m : Nat) = ((k + 1 : Nat) : Int) := lvl_nd (by omega)
  simp only [rtB, lfB, this]
  refine ⟨decide_eq_true ⟨by omega, by omega⟩, decide_eq_true (by omega)⟩
set_option maxHeartbeats 1000000 in
theorem sibling_any (x L : Int) (w : World) (hT : Tab w) :
    Calls Tryz.prog 175 #[.int .i64 x, .int .i64 L] w fun e w' => e = .returned (.tuple #[.int .i64 (sibV x L), .bool (parB x L)]) ∧ w' = w := by
  have K := parent_any x L w hT
  cases e : parB x L
  · simp only [parV, sibV, e] at K ⊢
    go_enter Tryz.func175, Tryz.ntmps175
    go_wp2_with fail
    refine (K).mono ?_
    rintro e w1 ⟨rfl, rfl⟩
    go_wp2
    go_ret2
    exact ⟨rfl, rfl⟩
  · simp only [parV, sibV, e, if_true] at K ⊢
    obtain ⟨d, k, m, hd, hL, rfl, hk, hm, hb⟩ := parB_open e
    have ha := abv_parent hd hk hm
    have hr := rtB_above ha.1
    have e1 := abv_nd (show nd k m < 9223372036854775808 by omega)
    have K1 := right_any (abv (nd k m : Nat)) w (by omega) hT
    have K2 := left_any (abv (nd k m : Nat)) w (by omega) hT
    rw [← e1] at hr
    rw [hr.1] at K1
    rw [hr.2] at K2
    unfold sb
    generalize rtV (abv (nd k m : Nat)) = V1 at *
    generalize lfV (abv (nd k m : Nat)) = V2 at *
    generalize abv (nd k m : Nat) = A at *
    generalize (nd k m : Nat) = X at *
    clear e e1 hr ha hb hm hk hL hd
    by_cases hx : (X : Int) < A
    · simp only [hx, if_true]
      go_enter Tryz.func175, Tryz.ntmps175
      go_wp2_with fail
      refine (K).mono ?_
      rintro e w1 ⟨rfl, rfl⟩
      go_wp2_with fail
      refine (K1).mono ?_
      rintro e w1 ⟨rfl, rfl⟩
      go_wp2
      go_ret2
      exact ⟨rfl, rfl⟩
    · simp only [hx, if_false]
      go_enter Tryz.func175, Tryz.ntmps175
      go_wp2_with fail
      refine (K).mono ?_
      rintro e w1 ⟨rfl, rfl⟩
      go_wp2_with fail
      refine (K2).mono ?_
      rintro e w1 ⟨rfl, rfl⟩
      go_wp2
      go_ret2
      exact ⟨rfl, rfl⟩
set_option maxHeartbeats 1000000 in
theorem span_any (x : Int) (w : World) (h2 : x ≤ 9223372036854775807) (hT : Tab w) :
    Calls Tryz.prog 188 #[.int .i64 x] w fun e w' => e = .returned (.tuple #[.int .i64 (spF x), .int .i64 (spT x)]) ∧ w' = w := by
  by_cases h0 : x < 0
  · simp only [spF, spT, h0, true_or, if_true]
    go_enter Tryz.func188, Tryz.ntmps188
    go_wp2
    go_ret2
    exact ⟨rfl, rfl⟩
  · by_cases h1 : x = 9223372036854775807
    · subst h1
      simp only [spF, spT, or_true, if_true]
      go_enter Tryz.func188, Tryz.ntmps188
      go_wp2
      go_ret2
      exact ⟨rfl, rfl⟩
    · have h3 : ¬ (x < 0 ∨ x = 9223372036854775807) := by omega
      have h1' : (x == 9223372036854775807) = false := by simpa using h1
      simp only [spF, spT, h3, if_false]
      obtain ⟨n, rfl⟩ : ∃ n : Nat, x = n := ⟨x.toNat, by omega⟩
      obtain ⟨k, m, rfl⟩ := exists_nd n
      have hb : nd k m < 9223372036854775808 := by omega
      have hk := nd_lt hb
      have hk2 : k < 63 := by
        rcases Nat.lt_or_ge k 63 with h | h
        · exact h
        · have e1 : k = 63 := by omega
          have e2 := hk.2 e1
          rw [e1, e2] at h1
          exact absurd rfl h1
      have K := level_any (nd k m : Nat) w (by omega) hT
      rw [lvl_nd hb] at K ⊢
      have hq := two_pow_62 hk2
      have hpos := Nat.two_pow_pos k
      have hroom := span_room hb hk2
      have e := nd_eq k m
      simp only [Int.toNat_natCast]
      obtain ⟨p, hp⟩ : ∃ p, p = 2 ^ k := ⟨_, rfl⟩
      have hw : wrap64 ((2 : Int) ^ k) = (p : Int) := wrap_pow (by omega) hp
      rw [← hp] at hq hpos hroom e ⊢
      generalize p * m = q at *
      have hc : ((p - 1 : Nat) : Int) = (p : Int) - 1 := by omega
      rw [hc]
      generalize nd k m = X at *
      have hw1 : wrap64 ((p : Int) - 1) = (p : Int) - 1 := wrap64_id (by omega) (by omega)
      have hw2 : wrap64 ((X : Int) - ((p : Int) - 1)) = (X : Int) - ((p : Int) - 1) := wrap64_id (by omega) (by omega)
      have hw3 : wrap64 ((X : Int) + ((p : Int) - 1)) = (X : Int) + ((p : Int) - 1) := wrap64_id (by omega) (by omega)
      have t1 : Int.tdiv ((X : Int) - ((p : Int) - 1)) 2 = ((X : Int) - ((p : Int) - 1)) / 2 := Int.tdiv_eq_ediv_of_nonneg (by omega)
      have t2 : Int.tdiv ((X : Int) + ((p : Int) - 1)) 2 = ((X : Int) + ((p : Int) - 1)) / 2 := Int.tdiv_eq_ediv_of_nonneg (by omega)
      have b1 : -9223372036854775808 ≤ ((X : Int) - ((p : Int) - 1)) / 2 ∧ ((X : Int) - ((p : Int) - 1)) / 2 ≤ 9223372036854775807 := by omega
      have b2 : -9223372036854775808 ≤ ((X : Int) + ((p : Int) - 1)) / 2 ∧ ((X : Int) + ((p : Int) - 1)) / 2 ≤ 9223372036854775807 := by omega
      have hw4 := wrap64_id b1.1 b1.2
      have hw5 := wrap64_id b2.1 b2.2
      clear hp h1 h3 hk e hb hc hq hpos hroom b1 b2
      go_enter Tryz.func188, Tryz.ntmps188
      go_wp2_with fail
      refine (K).mono ?_
      rintro e w1 ⟨rfl, rfl⟩
      go_wp2
      simp only [hw4, hw5]
      go_ret2
      exact ⟨rfl, rfl⟩
end Go.Proofs.YtpcpcgagiapinaaGreatDoor
