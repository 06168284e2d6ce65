/- Texts joined: IxBase IxA IxA2 IxMem IxSame. -/
import Derived.WalkKit
import Derived.WalkSpells
import Derived.WalkLawsBesides
import Derived.WalkSmall
import Derived.Laws.Bits128
import Derived.Laws.DeepNot64
import Derived.Laws.BitsAllLaws
import Derived.Shelf.Spec.TrailingZeros
import Derived.Test.YtcbafeneaoaglaaGreatDoorProg
import Derived.Maps.AppendAt
import Derived.Laws.OwnMore
import Derived.BigQuiet
/- Plain mathematics for the proofs over package index: a number from 0 on is the m-th node of the level k, 2^k (2 m + 1) - 1. Nothing of the program is in this text. -/
namespace Go.Proofs.YtcbafeneaoaglaaGreatDoor
open Go.RowKit

theorem hide {p : Prop} (h : p) : Hid p := h
theorem unhide {p : Prop} (h : Hid p) : p := h

theorem nat_xor_ones (a : Nat) (h : a < 18446744073709551616) : a ^^^ 18446744073709551615 = 18446744073709551615 - a := by
  have h1 : (BitVec.ofNat 64 a ^^^ BitVec.allOnes 64).toNat = a ^^^ 18446744073709551615 := by
    rw [BitVec.toNat_xor, BitVec.toNat_allOnes, BitVec.toNat_ofNat, Nat.mod_eq_of_lt h]
  rw [← h1, BitVec.xor_allOnes, BitVec.toNat_not, BitVec.toNat_ofNat, Nat.mod_eq_of_lt h]

/-- The m-th node of the level k. -/
def nd (k m : Nat) : Nat := 2 ^ k * (2 * m + 1) - 1

theorem nd_succ (k m : Nat) : nd k m + 1 = 2 ^ k * (2 * m + 1) := by
  have : 0 < 2 ^ k * (2 * m + 1) := Nat.mul_pos (Nat.two_pow_pos k) (by omega)
  unfold nd; omega

theorem exists_nd (x : Nat) : ∃ k m, x = nd k m := by
  have h : ∀ f n, 0 < n → n < 2 ^ f → ∃ k m, n = 2 ^ k * (2 * m + 1) := fun f n h0 h => by
    obtain ⟨m, hm, _⟩ := Lib.ctzFrom_spec f n h0 h
    exact ⟨_, m, hm⟩
  obtain ⟨k, m, hm⟩ := h (x + 1) (x + 1) (by omega) (Nat.lt_two_pow_self)
  exact ⟨k, m, by have := nd_succ k m; omega⟩

theorem nd_inj {k m j n : Nat} (h : nd k m = nd j n) : k = j ∧ m = n := by
  have h1 : 2 ^ k * (2 * m + 1) = 2 ^ j * (2 * n + 1) := by rw [← nd_succ, ← nd_succ, h]
  have key : ∀ a b p q : Nat, a < b → 2 ^ a * (2 * p + 1) ≠ 2 ^ b * (2 * q + 1) := by
    intro a b p q hab he
    obtain ⟨d, rfl⟩ : ∃ d, b = a + 1 + d := ⟨b - a - 1, by omega⟩
    rw [Nat.pow_add, Nat.pow_add, Nat.mul_assoc, Nat.mul_assoc] at he
    have := Nat.eq_of_mul_eq_mul_left (Nat.two_pow_pos a) he
    omega
  rcases Nat.lt_trichotomy k j with hk | hk | hk
  · exact absurd h1 (key _ _ _ _ hk)
  · subst hk
    have := Nat.eq_of_mul_eq_mul_left (Nat.two_pow_pos k) h1
    exact ⟨rfl, by omega⟩
  · exact absurd h1.symm (key _ _ _ _ hk)

/-- A node, by its powers: x = 2 p m + p - 1, p = 2^k. -/
theorem nd_eq (k m : Nat) : nd k m = 2 * (2 ^ k * m) + 2 ^ k - 1 := by
  unfold nd
  rw [Nat.mul_add, Nat.mul_one, Nat.mul_left_comm]

theorem nd_lt {k m : Nat} (h : nd k m < 9223372036854775808) : k < 64 ∧ (k = 63 → m = 0) := by
  have hp := Nat.two_pow_pos k
  have e := nd_succ k m
  have hle : 2 ^ k ≤ 2 ^ k * (2 * m + 1) := Nat.le_mul_of_pos_right _ (by omega)
  have hk : k < 64 := by
    apply Nat.lt_of_not_le
    intro hc
    have : 2 ^ 64 ≤ 2 ^ k := Nat.pow_le_pow_right (by decide) hc
    omega
  refine ⟨hk, ?_⟩
  rintro rfl
  have h63 : (2 : Nat) ^ 63 = 9223372036854775808 := by decide
  rw [h63] at e
  omega

theorem two_pow_le {j k : Nat} (h : j ≤ k) : 2 ^ j ≤ 2 ^ k := Nat.pow_le_pow_right (by decide) h
theorem two_pow_62 {k : Nat} (h : k < 63) : 2 ^ k ≤ 4611686018427387904 := by
  have := two_pow_le (show k ≤ 62 by omega)
  have h62 : (2 : Nat) ^ 62 = 4611686018427387904 := by decide
  omega

/-- How many of the lowest bits of 2^64 - 1 - x are 0: the level of x. -/
theorem ctz_nd (k m : Nat) (h : nd k m < 9223372036854775808) : Lib.ctz 64 (18446744073709551615 - nd k m) = k := by
  have hk := nd_lt h
  have e := nd_succ k m
  have h0 : 18446744073709551615 - nd k m ≠ 0 := by omega
  obtain ⟨m', hm, _⟩ := Lib.ctzFrom_spec 64 (18446744073709551615 - nd k m) (by omega) (by omega)
  have e1 : Lib.ctz 64 (18446744073709551615 - nd k m) = Lib.ctzFrom 64 (18446744073709551615 - nd k m) := by simp [Lib.ctz, h0]
  rw [e1]
  generalize Lib.ctzFrom 64 (18446744073709551615 - nd k m) = j at hm
  obtain ⟨d, hd⟩ : ∃ d, 64 = k + (d + 1) := ⟨63 - k, by omega⟩
  have h64 : (2 : Nat) ^ 64 = 18446744073709551616 := by decide
  rw [hd, Nat.pow_add, Nat.pow_succ] at h64
  have hq : 2 ^ k * (2 * (2 ^ d - m - 1) + 1) = 18446744073709551615 - nd k m := by
    have h2 : 2 ^ k * (2 * (2 ^ d - m - 1) + 1) + 2 ^ k * (2 * m + 1) = 2 ^ k * (2 ^ d * 2) := by
      rw [← Nat.mul_add]
      have hlt : 2 * m + 1 < 2 ^ d * 2 := by
        apply Nat.lt_of_mul_lt_mul_left (a := 2 ^ k)
        omega
      congr 1
      omega
    omega
  have : nd j m' = nd k (2 ^ d - m - 1) := by unfold nd; rw [hq, ← hm]
  exact (nd_inj this).1

/-- The level, as a number. -/
def lvl (x : Int) : Int := if x < 0 then -1 else (Lib.ctz 64 (18446744073709551615 - x.toNat) : Nat)
theorem lvl_neg {x : Int} (h : x < 0) : lvl x = -1 := by simp [lvl, h]
theorem lvl_nd {k m : Nat} (h : nd k m < 9223372036854775808) : lvl (nd k m : Nat) = (k : Nat) := by
  have : ¬ ((nd k m : Nat) : Int) < 0 := by omega
  simp only [lvl, this, if_false, Int.toNat_natCast, ctz_nd k m h]

theorem lvl_cases (x : Int) (h2 : x ≤ 9223372036854775807) : (x < 0 ∧ lvl x = -1) ∨ (∃ m : Nat, x = (nd 0 m : Nat) ∧ nd 0 m < 9223372036854775808 ∧ lvl x = 0) ∨ (∃ k m : Nat, x = (nd (k + 1) m : Nat) ∧ nd (k + 1) m < 9223372036854775808 ∧ lvl x = ((k + 1 : Nat) : Int)) := by
  by_cases h : x < 0
  · exact Or.inl ⟨h, lvl_neg h⟩
  · obtain ⟨n, rfl⟩ : ∃ n : Nat, x = n := ⟨x.toNat, by omega⟩
    obtain ⟨k, m, rfl⟩ := exists_nd n
    have hb : nd k m < 9223372036854775808 := by omega
    cases k with
    | zero => exact Or.inr (Or.inl ⟨m, rfl, hb, by rw [lvl_nd hb]; rfl⟩)
    | succ k => exact Or.inr (Or.inr ⟨k, m, rfl, hb, lvl_nd hb⟩)

/-- Half of how far the children of a node are apart. -/
def hf (x : Int) : Int := if 0 < lvl x then ((2 ^ ((lvl x).toNat - 1) : Nat) : Int) else 0
def lfB (x : Int) : Bool := decide (0 < lvl x)
def lfV (x : Int) : Int := if 0 < lvl x then x - hf x else 0
def rtB (x : Int) : Bool := decide (0 < lvl x ∧ x ≠ 9223372036854775807)
def rtV (x : Int) : Int := if 0 < lvl x ∧ x ≠ 9223372036854775807 then x + hf x else 0
def spF (x : Int) : Int := if x < 0 ∨ x = 9223372036854775807 then -1 else (x - (2 ^ (lvl x).toNat - 1 : Nat)) / 2
def spT (x : Int) : Int := if x < 0 ∨ x = 9223372036854775807 then -1 else (x + (2 ^ (lvl x).toNat - 1 : Nat)) / 2

/-- Is there a tree of so many leaves? -/
def isT (L : Int) : Bool := (List.range 31).any fun d => L == ((2 ^ d : Nat) : Int)
theorem isT_iff {L : Int} : isT L = true ↔ ∃ d, d ≤ 30 ∧ L = ((2 ^ d : Nat) : Int) := by
  simp only [isT, List.any_eq_true, List.mem_range, beq_iff_eq]
  constructor
  · rintro ⟨d, h, e⟩; exact ⟨d, by omega, e⟩
  · rintro ⟨d, h, e⟩; exact ⟨d, by omega, e⟩
def wid (L : Int) : Int := if isT L = true then 2 * L - 1 else 0
def rot (L : Int) : Int := if isT L = true then L - 1 else -1
def inn (x L : Int) : Bool := isT L && decide (0 ≤ x) && decide (x ≤ 2 * L - 2)

theorem pow30 {d : Nat} (h : d ≤ 30) : 2 ^ d ≤ 1073741824 := by
  have := two_pow_le h
  have e : (2 : Nat) ^ 30 = 1073741824 := by decide
  omega

theorem div_mul_add {p m r : Nat} (h : r < p) : (p * m + r) / p = m := by
  rw [Nat.mul_add_div (by omega), Nat.div_eq_of_lt h, Nat.add_zero]

/-- What stands above the bits of its level in a node. -/
theorem nd_div (k m : Nat) : nd k m / 2 ^ (k + 1) = m := by
  have hp := Nat.two_pow_pos k
  have : nd k m = 2 ^ (k + 1) * m + (2 ^ k - 1) := by rw [nd_eq, Nat.pow_succ, Nat.mul_comm (2 ^ k) 2, Nat.mul_assoc]; omega
  rw [this]
  exact div_mul_add (by rw [Nat.pow_succ]; omega)

/-- n & (n - 1) is 0 just for the powers of 2. -/
theorem and_pred {n : Nat} (h : 0 < n) : (n &&& (n - 1) = 0) ↔ ∃ d, n = 2 ^ d := by
  obtain ⟨k, m, hk⟩ := exists_nd (n - 1)
  have e := nd_succ k m
  have hn : n = 2 ^ k * (2 * m + 1) := by omega
  constructor
  · intro h0
    refine ⟨k, ?_⟩
    have h1 : (n &&& (n - 1)) / 2 ^ (k + 1) = 0 := by rw [h0]; simp
    rw [Nat.and_div_two_pow, hk, nd_div] at h1
    have hp := Nat.two_pow_pos k
    have a1 : n / 2 ^ (k + 1) = m := by
      have : n = 2 ^ (k + 1) * m + 2 ^ k := by rw [hn, Nat.mul_add, Nat.pow_succ, Nat.mul_one, Nat.mul_assoc]
      rw [this]
      exact div_mul_add (by rw [Nat.pow_succ]; omega)
    rw [a1, Nat.and_self] at h1
    rw [hn, h1]; simp
  · rintro ⟨d, rfl⟩
    rw [Nat.and_two_pow_sub_one_eq_mod]
    exact Nat.mod_self _

theorem isT_and {n : Nat} (h : 0 < n) (h2 : n ≤ 1073741824) : isT (n : Int) = true ↔ n &&& (n - 1) = 0 := by
  rw [and_pred h, isT_iff]
  constructor
  · rintro ⟨d, _, e⟩; exact ⟨d, by omega⟩
  · rintro ⟨d, e⟩
    refine ⟨d, ?_, by rw [e]⟩
    apply Nat.le_of_not_lt
    intro hc
    have := two_pow_le (show 31 ≤ d by omega)
    have e31 : (2 : Nat) ^ 31 = 2147483648 := by decide
    omega
theorem isT_small {L : Int} (h : L < 1) : isT L = false := by
  cases e : isT L
  · rfl
  · obtain ⟨d, _, rfl⟩ := isT_iff.1 e
    have := Nat.two_pow_pos d
    omega
theorem isT_great {L : Int} (h : 1073741824 < L) : isT L = false := by
  cases e : isT L
  · rfl
  · obtain ⟨d, hd, rfl⟩ := isT_iff.1 e
    have := pow30 hd
    omega
theorem isT_bounds {L : Int} (h : isT L = true) : 1 ≤ L ∧ L ≤ 1073741824 := by
  obtain ⟨d, hd, rfl⟩ := isT_iff.1 h
  have := pow30 hd
  have := Nat.two_pow_pos d
  omega

theorem wrap_i64_nat (n : Nat) (h : n < 9223372036854775808) : IntKind.i64.wrap (n : Int) = (n : Int) := by
  have e : (n : Int) % 2 ^ 64 = n := Int.emod_eq_of_lt (by omega) (by omega)
  simp only [IntKind.wrap, IntKind.bits, IntKind.signed, e]
  rw [if_neg]
  simp
  omega
theorem i64_and_nat (a b : Nat) (ha : a < 9223372036854775808) (hb : b < 9223372036854775808) : bits .and .i64 (a : Int) (b : Int) = ((a &&& b : Nat) : Int) := by
  have hx : a &&& b < 2 ^ 63 := Nat.and_lt_two_pow _ (by omega)
  show IntKind.i64.wrap ((BitVec.ofInt 64 (a : Int) &&& BitVec.ofInt 64 (b : Int)).toNat : Int) = _
  rw [BitVec.toNat_and, ofInt_u64 a (by omega), ofInt_u64 b (by omega)]
  exact wrap_i64_nat _ (by omega)
theorem i64_or_nat (a b : Nat) (ha : a < 9223372036854775808) (hb : b < 9223372036854775808) : bits .or .i64 (a : Int) (b : Int) = ((a ||| b : Nat) : Int) := by
  have hx : a ||| b < 2 ^ 63 := Nat.or_lt_two_pow (by omega) (by omega)
  show IntKind.i64.wrap ((BitVec.ofInt 64 (a : Int) ||| BitVec.ofInt 64 (b : Int)).toNat : Int) = _
  rw [BitVec.toNat_or, ofInt_u64 a (by omega), ofInt_u64 b (by omega)]
  exact wrap_i64_nat _ (by omega)
theorem i64_andNot_nat (a b : Nat) (ha : a < 9223372036854775808) (hb : b < 9223372036854775808) : bits .andNot .i64 (a : Int) (b : Int) = ((a &&& (18446744073709551615 - b) : Nat) : Int) := by
  have hx : a &&& (18446744073709551615 - b) ≤ a := Nat.and_le_left
  show IntKind.i64.wrap ((BitVec.ofInt 64 (a : Int) &&& ~~~BitVec.ofInt 64 (b : Int)).toNat : Int) = _
  rw [BitVec.toNat_and, BitVec.toNat_not, ofInt_u64 a (by omega), ofInt_u64 b (by omega)]
  have e : 2 ^ 64 - 1 - b = 18446744073709551615 - b := by omega
  rw [e]
  exact wrap_i64_nat _ (by omega)

theorem nd_mul (k m : Nat) : nd k m = 2 ^ (k + 1) * m + (2 ^ k - 1) := by
  have hp := Nat.two_pow_pos k
  rw [nd_eq, Nat.pow_succ, Nat.mul_comm (2 ^ k) 2, Nat.mul_assoc]; omega

/-- The bit of its level put to a node. -/
theorem nd_or (k m : Nat) : nd k m ||| 2 ^ k = 2 ^ (k + 1) * m + (2 ^ (k + 1) - 1) := by
  have hp := Nat.two_pow_pos k
  have e1 : 2 ^ (k + 1) * m + (2 ^ k - 1) = 2 ^ (k + 1) * m ||| (2 ^ k - 1) := Nat.two_pow_add_eq_or_of_lt (by rw [Nat.pow_succ]; omega) m
  have e2 : 2 ^ k * 1 + (2 ^ k - 1) = 2 ^ k * 1 ||| (2 ^ k - 1) := Nat.two_pow_add_eq_or_of_lt (by omega) 1
  have e3 : 2 ^ (k + 1) * m + (2 ^ (k + 1) - 1) = 2 ^ (k + 1) * m ||| (2 ^ (k + 1) - 1) := Nat.two_pow_add_eq_or_of_lt (by have := Nat.two_pow_pos (k + 1); omega) m
  rw [nd_mul, e1, e3, Nat.or_assoc]
  congr 1
  rw [Nat.mul_one] at e2
  rw [Nat.or_comm, ← e2, Nat.pow_succ]; omega

theorem above_bits (k m : Nat) (h : 2 ^ (k + 1) * m + (2 ^ (k + 1) - 1) < 9223372036854775808) : (2 ^ (k + 1) * m + (2 ^ (k + 1) - 1)) &&& (18446744073709551615 - 2 ^ (k + 1)) = nd (k + 1) (m / 2) := by
  have hp := Nat.two_pow_pos (k + 1)
  have hT : nd (k + 1) (m / 2) = 2 ^ (k + 1) * (2 * (m / 2)) + (2 ^ (k + 1) - 1) := by
    rw [nd_mul, Nat.pow_succ 2 (k + 1), Nat.mul_assoc]
  have hpk : 2 ^ (k + 1) < 2 ^ 64 := by
    have : 2 ^ (k + 1) - 1 < 9223372036854775808 := by omega
    omega
  have e64 : 18446744073709551615 - 2 ^ (k + 1) = 2 ^ 64 - (2 ^ (k + 1) + 1) := by omega
  rw [hT, e64]
  apply Nat.eq_of_testBit_eq
  intro j
  rw [Nat.testBit_and, Nat.testBit_two_pow_sub_succ hpk, Nat.testBit_two_pow_mul_add _ (by omega), Nat.testBit_two_pow_mul_add _ (by omega), Nat.testBit_two_pow]
  by_cases h1 : j < k + 1
  · have h2 : ¬ k + 1 = j := by omega
    have hk63 : k + 1 < 64 := by
      apply Nat.lt_of_not_le
      intro hc
      have := two_pow_le hc
      omega
    have h3 : j < 64 := by omega
    simp [h1, h2, h3]
  · simp only [h1, if_false]
    by_cases h2 : k + 1 = j
    · subst h2
      simp [Nat.testBit_zero]
    · obtain ⟨i, rfl⟩ : ∃ i, j = k + 1 + (i + 1) := ⟨j - (k + 1) - 1, by omega⟩
      have e1 : k + 1 + (i + 1) - (k + 1) = i + 1 := by omega
      rw [e1, Nat.testBit_succ, Nat.testBit_succ]
      have e2 : 2 * (m / 2) / 2 = m / 2 := by omega
      rw [e2]
      have h4 : (decide (k + 1 = k + 1 + (i + 1))) = false := by simp
      rw [h4]
      by_cases h5 : k + 1 + (i + 1) < 64
      · simp [h5]
      · have hm : m < 2 ^ (i + 1) := by
          apply Nat.lt_of_mul_lt_mul_left (a := 2 ^ (k + 1))
          rw [← Nat.pow_add]
          have := two_pow_le (show 64 ≤ k + 1 + (i + 1) by omega)
          omega
        have : (m / 2).testBit i = false := Nat.testBit_lt_two_pow (by rw [Nat.pow_succ] at hm; omega)
        simp [this]

/-- The node above. -/
def abv (x : Int) : Int := (nd ((lvl x).toNat + 1) (x.toNat / 2 ^ ((lvl x).toNat + 1) / 2) : Nat)
theorem abv_nd {k m : Nat} (h : nd k m < 9223372036854775808) : abv (nd k m : Nat) = (nd (k + 1) (m / 2) : Nat) := by
  unfold abv
  rw [lvl_nd h, Int.toNat_natCast, Int.toNat_natCast, nd_div]
def sb (x : Int) : Int := if x < abv x then rtV (abv x) else lfV (abv x)
def parB (x L : Int) : Bool := inn x L && decide (x ≠ L - 1)
def parV (x L : Int) : Int := if parB x L = true then abv x else 0
def sibV (x L : Int) : Int := if parB x L = true then sb x else 0
/-- Is x the node y, or below it? -/
def wi (x y : Int) : Bool := decide (0 ≤ x) && decide (0 ≤ y) && decide (y + 1 - (2 ^ (lvl y).toNat : Nat) ≤ x) && decide (x + 1 ≤ y + (2 ^ (lvl y).toNat : Nat))

theorem inn_nd {k m d : Nat} (hd : d ≤ 30) : inn (nd k m : Nat) ((2 ^ d : Nat) : Int) = true ↔ k ≤ d ∧ m < 2 ^ (d - k) := by
  have hT : isT ((2 ^ d : Nat) : Int) = true := isT_iff.2 ⟨d, hd, rfl⟩
  have e := nd_succ k m
  have hp := Nat.two_pow_pos k
  have hx : inn (nd k m : Nat) ((2 ^ d : Nat) : Int) = true ↔ 2 ^ k * (2 * m + 1) < 2 ^ (d + 1) := by
    simp only [inn, hT, Bool.true_and, Bool.and_eq_true, decide_eq_true_eq]
    rw [Nat.pow_succ]
    generalize 2 ^ d = D at *
    omega
  rw [hx]
  constructor
  · intro h
    have hk : k ≤ d := by
      apply Nat.le_of_not_lt
      intro hc
      have h1 := two_pow_le (show d + 1 ≤ k by omega)
      have h2 : 2 ^ k ≤ 2 ^ k * (2 * m + 1) := Nat.le_mul_of_pos_right _ (by omega)
      omega
    refine ⟨hk, ?_⟩
    obtain ⟨c, rfl⟩ : ∃ c, d = k + c := ⟨d - k, by omega⟩
    rw [Nat.add_assoc, Nat.pow_add] at h
    have := Nat.lt_of_mul_lt_mul_left h
    rw [Nat.pow_succ] at this
    have e1 : k + c - k = c := by omega
    rw [e1]; omega
  · rintro ⟨hk, hm⟩
    obtain ⟨c, rfl⟩ : ∃ c, d = k + c := ⟨d - k, by omega⟩
    have e1 : k + c - k = c := by omega
    rw [e1] at hm
    rw [Nat.add_assoc, Nat.pow_add, Nat.pow_succ]
    exact Nat.mul_lt_mul_of_pos_left (by omega) hp
theorem root_nd (d : Nat) : ((2 ^ d : Nat) : Int) - 1 = (nd d 0 : Nat) := by
  have := nd_succ d 0
  have := Nat.two_pow_pos d
  simp only [Nat.mul_zero, Nat.zero_add, Nat.mul_one] at *
  generalize 2 ^ d = D at *
  omega
theorem parB_nd {k m d : Nat} (hd : d ≤ 30) : parB (nd k m : Nat) ((2 ^ d : Nat) : Int) = true ↔ k < d ∧ m < 2 ^ (d - k) := by
  rw [parB, Bool.and_eq_true, inn_nd hd, root_nd, decide_eq_true_eq]
  constructor
  · rintro ⟨⟨h1, h2⟩, h3⟩
    refine ⟨?_, h2⟩
    rcases Nat.lt_or_eq_of_le h1 with h | h
    · exact h
    · subst h
      simp at h2
      subst h2
      exact absurd rfl h3
  · rintro ⟨h1, h2⟩
    refine ⟨⟨by omega, h2⟩, fun c => ?_⟩
    have := nd_inj (Int.ofNat.inj c)
    omega
theorem nd_small {k m d : Nat} (hd : d ≤ 30) (h1 : k ≤ d) (h2 : m < 2 ^ (d - k)) : nd k m < 2147483647 := by
  have := (inn_nd hd).2 ⟨h1, h2⟩
  simp only [inn, Bool.and_eq_true, decide_eq_true_eq] at this
  have := pow30 hd
  generalize 2 ^ d = D at *
  omega

/-- A number of nodes of a level, up to the end of the numbers. -/
theorem span_room {k m : Nat} (h : nd k m < 9223372036854775808) (hk : k < 63) : nd k m + 2 ^ k < 9223372036854775808 := by
  have e := nd_succ k m
  obtain ⟨c, hc⟩ : ∃ c, 63 = k + (c + 1) := ⟨62 - k, by omega⟩
  have h63 : (2 : Nat) ^ 63 = 9223372036854775808 := by decide
  rw [hc, Nat.pow_add, Nat.pow_succ] at h63
  have h1 : 2 ^ k * (2 * m + 1) ≤ 2 ^ k * (2 ^ c * 2) := by omega
  have h2 := Nat.le_of_mul_le_mul_left h1 (Nat.two_pow_pos k)
  have h3 : 2 ^ k * (2 * m + 1 + 1) ≤ 2 ^ k * (2 ^ c * 2) := Nat.mul_le_mul_left _ (by omega)
  rw [Nat.mul_add _ (2 * m + 1) 1, Nat.mul_one] at h3
  omega
theorem right_room {k m : Nat} (h : nd (k + 1) m < 9223372036854775808) (hX : ((nd (k + 1) m : Nat) : Int) ≠ 9223372036854775807) : nd (k + 1) m + 2 ^ k < 9223372036854775808 := by
  have hk := nd_lt h
  have hk2 : k + 1 < 63 := by
    rcases Nat.lt_or_ge (k + 1) 63 with h | h
    · exact h
    · have e1 : k + 1 = 63 := by omega
      have e2 := hk.2 e1
      rw [e1, e2] at hX
      exact absurd rfl hX
  have h1 := span_room h hk2
  rw [Nat.pow_succ] at h1
  omega

end Go.Proofs.YtcbafeneaoaglaaGreatDoor

/- Contracts of the small functions of package index: Level and what leans on it. -/
namespace Go.Proofs.YtcbafeneaoaglaaGreatDoor
open Go.RowKit

theorem wrap_not (x : Int) (h0 : 0 ≤ x) (h1 : x < 18446744073709551616) : IntKind.u64.wrap (-(x) - 1) = 18446744073709551615 - x := by
  rw [IntKind.wrap_u64]; omega

theorem wrap64_id {a : Int} (h1 : -9223372036854775808 ≤ a) (h2 : a ≤ 9223372036854775807) : wrap64 a = a := by
  unfold wrap64; omega
theorem wrap_pow {k p : Nat} (h : k < 63) (hp : p = 2 ^ k) : wrap64 ((2 : Int) ^ k) = (p : Int) := by
  have h62 := two_pow_62 h
  have e : (2 : Int) ^ k = (p : Int) := by rw [hp]; simp
  rw [e]
  rw [← hp] at h62
  exact wrap64_id (by omega) (by omega)

set_option maxHeartbeats 1000000 in
theorem tz64_core (x k idx : Nat) (w : World) (hx0 : ((x : Int) == 0) = false)
    (key : IntKind.u64.wrap (bits BinOp.and IntKind.u64 (x : Int) (IntKind.u64.wrap (-(x : Int))) * 285870213051353865) / 288230376151711744 = (idx : Int))
    (hi : idx < 64) (hk : k < 64) (hcell : w.cell? ⟨0, idx, none⟩ = some (.int .u8 k)) :
    Calls Tryz.prog 111 #[.int .u64 x] w fun e w' => e = .returned (.int .i64 k) ∧ w' = w := by
  go_enter Tryz.func111, Tryz.ntmps111
  go_wp2_with (simp only [key])
  go_ret
  exact ⟨rfl, rfl⟩

/-- The table of math/bits stands in its variable. -/
def Tab (w : World) : Prop := TabAt 0 Lib.deBruijn64tab w

theorem tz64_any (x : Nat) (hx : x < 18446744073709551616) (hx0 : x ≠ 0) (w : World) (hT : Tab w) :
    Calls Tryz.prog 111 #[.int .u64 x] w fun e w' => e = .returned (.int .i64 (Lib.ctz 64 x)) ∧ w' = w := by
  obtain ⟨hlow, hk⟩ := Lib.lowest_bit 64 x hx0 hx
  obtain ⟨hi, htab⟩ := Lib.deBruijn64_at _ hk
  have hcell := hT _ hi
  rw [htab] at hcell
  exact tz64_core x _ _ w (by simp; omega) (tz64_key x _ hx hx0 hlow) hi hk hcell

set_option maxHeartbeats 1000000 in
theorem level_any (x : Int) (w : World) (h2 : x ≤ 9223372036854775807) (hT : Tab w) :
    Calls Tryz.prog 101 #[.int .i64 x] w fun e w' => e = .returned (.int .i64 (lvl x)) ∧ w' = w := by
  by_cases h : x < 0
  · rw [lvl_neg h]
    go_enter Tryz.func101, Tryz.ntmps101
    go_wp2
    go_ret
    exact ⟨rfl, rfl⟩
  · obtain ⟨n, rfl⟩ : ∃ n : Nat, x = n := ⟨x.toNat, by omega⟩
    have e1 : IntKind.u64.wrap (n : Int) = n := by rw [IntKind.wrap_u64]; omega
    have K := tz64_any (18446744073709551615 - n) (by omega) (by omega) w hT
    have e3 : lvl (n : Int) = (Lib.ctz 64 (18446744073709551615 - n) : Nat) := by simp [lvl, h]
    rw [e3]
    generalize Lib.ctz 64 (18446744073709551615 - n) = z at K ⊢
    go_enter Tryz.func101, Tryz.ntmps101
    have e2 : bits BinOp.xor IntKind.u64 IntKind.u64.max (n : Int) = ((18446744073709551615 - n : Nat) : Int) := by
      have hm : IntKind.u64.max = ((18446744073709551615 : Nat) : Int) := by decide
      rw [hm, u64_xor _ _ (by omega) (by omega) (by omega) (by omega)]
      simp only [Int.toNat_natCast]
      rw [Nat.xor_comm, nat_xor_ones n (by omega)]
    go_wp2_with fail
    refine K.mono ?_
    rintro e w1 ⟨rfl, rfl⟩
    go_wp2
    go_ret
    exact ⟨rfl, rfl⟩

end Go.Proofs.YtcbafeneaoaglaaGreatDoor

/- Contracts of the functions of package index that answer numbers and flags. -/
namespace Go.Proofs.YtcbafeneaoaglaaGreatDoor
open Go.RowKit

set_option maxHeartbeats 1000000 in
theorem isTree_any (L : Int) (w : World) :
    Calls Tryz.prog 100 #[.int .i64 L] w fun e w' => e = .returned (.bool (isT L)) ∧ w' = w := by
  by_cases h1 : L < 1
  · rw [isT_small h1]
    go_enter Tryz.func100, Tryz.ntmps100
    go_wp2
    go_ret
    exact ⟨rfl, rfl⟩
  · by_cases h2 : 1073741824 < L
    · rw [isT_great h2]
      go_enter Tryz.func100, Tryz.ntmps100
      go_wp2
      go_ret
      exact ⟨rfl, rfl⟩
    · obtain ⟨n, rfl⟩ : ∃ n : Nat, L = n := ⟨L.toNat, by omega⟩
      have hk := isT_and (n := n) (by omega) (by omega)
      have ha : bits .and .i64 (n : Int) ((n : Int) - 1) = ((n &&& (n - 1) : Nat) : Int) := by
        have e : (n : Int) - 1 = ((n - 1 : Nat) : Int) := by omega
        rw [e]; exact i64_and_nat _ _ (by omega) (by omega)
      generalize n &&& (n - 1) = r at *
      cases e : isT (n : Int)
      · have hr : ((r : Int) == 0) = false := by
          rw [beq_eq_false_iff_ne]; intro c
          have := hk.2 (by omega); rw [e] at this; cases this
        clear hk e
        go_enter Tryz.func100, Tryz.ntmps100
        go_wp2
        go_ret
        exact ⟨rfl, rfl⟩
      · have hr : r = 0 := hk.1 e
        subst hr
        clear hk e
        go_enter Tryz.func100, Tryz.ntmps100
        go_wp2
        go_ret
        exact ⟨rfl, rfl⟩

set_option maxHeartbeats 1000000 in
theorem width_any (L : Int) (w : World) :
    Calls Tryz.prog 92 #[.int .i64 L] w fun e w' => e = .returned (.int .i64 (wid L)) ∧ w' = w := by
  have K := isTree_any L w
  cases e : isT L
  · rw [e] at K
    simp only [wid, e]
    go_enter Tryz.func92, Tryz.ntmps92
    go_wp2_with fail
    refine (K).mono ?_
    rintro e w1 ⟨rfl, rfl⟩
    go_wp2
    go_ret
    exact ⟨rfl, rfl⟩
  · rw [e] at K
    simp only [wid, e, if_true]
    have hb := isT_bounds e
    have hw : wrap64 (L * 2) = L * 2 := wrap64_id (by omega) (by omega)
    have hw0 : wrap64 (2 * L) = 2 * L := wrap64_id (by omega) (by omega)
    have hw1 : wrap64 (2 * L - 1) = 2 * L - 1 := wrap64_id (by omega) (by omega)
    have hw2 : wrap64 (L - 1) = L - 1 := wrap64_id (by omega) (by omega)
    clear e
    go_enter Tryz.func92, Tryz.ntmps92
    go_wp2_with fail
    refine (K).mono ?_
    rintro e w1 ⟨rfl, rfl⟩
    go_wp2
    go_ret
    exact ⟨rfl, rfl⟩

theorem inn_wid (x L : Int) : inn x L = (decide (0 ≤ x) && decide (x < wid L)) := by
  unfold inn wid
  cases e : isT L
  · simp <;> omega
  · simp
    by_cases h0 : 0 ≤ x
    · simp only [h0, decide_true, Bool.true_and]
      congr 1
      simp; omega
    · simp [h0]

theorem parB_cases (x L : Int) : (inn x L = false ∧ parB x L = false) ∨ (inn x L = true ∧ x = L - 1 ∧ parB x L = false ∧ rot L = L - 1) ∨ (inn x L = true ∧ x ≠ L - 1 ∧ parB x L = true ∧ rot L = L - 1) := by
  unfold parB
  cases e : inn x L
  · simp
  · have ht : isT L = true := by unfold inn at e; cases h : isT L <;> simp_all
    by_cases h : x = L - 1
    · exact Or.inr (Or.inl ⟨rfl, h, by simp [h], by simp [rot, ht]⟩)
    · exact Or.inr (Or.inr ⟨rfl, h, by simp [h], by simp [rot, ht]⟩)
/-- A node with a parent, by its level and place. -/
theorem parB_open {x L : Int} (h : parB x L = true) : ∃ d k m : Nat, d ≤ 30 ∧ L = ((2 ^ d : Nat) : Int) ∧ x = (nd k m : Nat) ∧ k < d ∧ m < 2 ^ (d - k) ∧ nd k m < 2147483647 := by
  have hi : inn x L = true := by unfold parB at h; cases e : inn x L <;> simp_all
  have ht : isT L = true := by unfold inn at hi; cases h : isT L <;> simp_all
  have h0 : 0 ≤ x := by simp [inn] at hi; omega
  obtain ⟨d, hd, rfl⟩ := isT_iff.1 ht
  obtain ⟨n, rfl⟩ : ∃ n : Nat, x = n := ⟨x.toNat, by omega⟩
  obtain ⟨k, m, rfl⟩ := exists_nd n
  obtain ⟨h1, h2⟩ := (parB_nd hd).1 h
  exact ⟨d, k, m, hd, rfl, rfl, h1, h2, nd_small hd (by omega) h2⟩

theorem abv_parent {k m d : Nat} (hd : d ≤ 30) (hk : k < d) (hm : m < 2 ^ (d - k)) : nd (k + 1) (m / 2) < 2147483647 ∧ m / 2 < 2 ^ (d - (k + 1)) := by
  have h2 : m / 2 < 2 ^ (d - (k + 1)) := by
    obtain ⟨c, hc⟩ : ∃ c, d - k = c + 1 := ⟨d - k - 1, by omega⟩
    have : d - (k + 1) = c := by omega
    rw [this]; rw [hc, Nat.pow_succ] at hm; omega
  exact ⟨nd_small hd (by omega) h2, h2⟩
theorem rtB_above {k m : Nat} (h : nd (k + 1) m < 2147483647) : rtB (nd (k + 1) m : Nat) = true ∧ lfB (nd (k + 1) m : Nat) = true := by
  have : lvl (nd (k + 1) m : Nat) = ((k + 1 : Nat) : Int) := lvl_nd (by omega)
  simp only [rtB, lfB, this]
  refine ⟨decide_eq_true ⟨by omega, by omega⟩, decide_eq_true (by omega)⟩

set_option maxHeartbeats 1000000 in
theorem span_any (x : Int) (w : World) (h2 : x ≤ 9223372036854775807) (hT : Tab w) :
    Calls Tryz.prog 112 #[.int .i64 x] w fun e w' => e = .returned (.tuple #[.int .i64 (spF x), .int .i64 (spT x)]) ∧ w' = w := by
  by_cases h0 : x < 0
  · simp only [spF, spT, h0, true_or, if_true]
    go_enter Tryz.func112, Tryz.ntmps112
    go_wp2
    go_ret2
    exact ⟨rfl, rfl⟩
  · by_cases h1 : x = 9223372036854775807
    · subst h1
      simp only [spF, spT, or_true, if_true]
      go_enter Tryz.func112, Tryz.ntmps112
      go_wp2
      go_ret2
      exact ⟨rfl, rfl⟩
    · have h3 : ¬ (x < 0 ∨ x = 9223372036854775807) := by omega
      have h1' : (x == 9223372036854775807) = false := by simpa using h1
      simp only [spF, spT, h3, if_false]
      obtain ⟨n, rfl⟩ : ∃ n : Nat, x = n := ⟨x.toNat, by omega⟩
      obtain ⟨k, m, rfl⟩ := exists_nd n
      have hb : nd k m < 9223372036854775808 := by omega
      have hk := nd_lt hb
      have hk2 : k < 63 := by
        rcases Nat.lt_or_ge k 63 with h | h
        · exact h
        · have e1 : k = 63 := by omega
          have e2 := hk.2 e1
          rw [e1, e2] at h1
          exact absurd rfl h1
      have K := level_any (nd k m : Nat) w (by omega) hT
      rw [lvl_nd hb] at K ⊢
      have hq := two_pow_62 hk2
      have hpos := Nat.two_pow_pos k
      have hroom := span_room hb hk2
      have e := nd_eq k m
      simp only [Int.toNat_natCast]
      obtain ⟨p, hp⟩ : ∃ p, p = 2 ^ k := ⟨_, rfl⟩
      have hw : wrap64 ((2 : Int) ^ k) = (p : Int) := wrap_pow (by omega) hp
      rw [← hp] at hq hpos hroom e ⊢
      generalize p * m = q at *
      have hc : ((p - 1 : Nat) : Int) = (p : Int) - 1 := by omega
      rw [hc]
      generalize nd k m = X at *
      have hw1 : wrap64 ((p : Int) - 1) = (p : Int) - 1 := wrap64_id (by omega) (by omega)
      have hw2 : wrap64 ((X : Int) - ((p : Int) - 1)) = (X : Int) - ((p : Int) - 1) := wrap64_id (by omega) (by omega)
      have hw3 : wrap64 ((X : Int) + ((p : Int) - 1)) = (X : Int) + ((p : Int) - 1) := wrap64_id (by omega) (by omega)
      have t1 : Int.tdiv ((X : Int) - ((p : Int) - 1)) 2 = ((X : Int) - ((p : Int) - 1)) / 2 := Int.tdiv_eq_ediv_of_nonneg (by omega)
      have t2 : Int.tdiv ((X : Int) + ((p : Int) - 1)) 2 = ((X : Int) + ((p : Int) - 1)) / 2 := Int.tdiv_eq_ediv_of_nonneg (by omega)
      have b1 : -9223372036854775808 ≤ ((X : Int) - ((p : Int) - 1)) / 2 ∧ ((X : Int) - ((p : Int) - 1)) / 2 ≤ 9223372036854775807 := by omega
      have b2 : -9223372036854775808 ≤ ((X : Int) + ((p : Int) - 1)) / 2 ∧ ((X : Int) + ((p : Int) - 1)) / 2 ≤ 9223372036854775807 := by omega
      have hw4 := wrap64_id b1.1 b1.2
      have hw5 := wrap64_id b2.1 b2.2
      clear hp h1 h3 hk e hb hc hq hpos hroom b1 b2
      go_enter Tryz.func112, Tryz.ntmps112
      go_wp2_with fail
      refine (K).mono ?_
      rintro e w1 ⟨rfl, rfl⟩
      go_wp2
      simp only [hw4, hw5]
      go_ret2
      exact ⟨rfl, rfl⟩

end Go.Proofs.YtcbafeneaoaglaaGreatDoor

/- Rows of numbers in memory, and the word for 'only new blocks'. -/
namespace Go.Proofs.YtcbafeneaoaglaaGreatDoor
open Go.RowKit

def I64 (z : Int) : Value := .int .i64 z
/-- A row of numbers of its own, that begins behind the block B. -/
def Ints (B : Nat) (w : World) (v : Value) (l : List Int) : Prop := w.ownsRow B 3 1 v l.length (l.map I64)
/-- A slice that reads as these numbers. -/
def Nums (w : World) (v : Value) (l : List Int) : Prop :=
  (l = [] ∧ ∃ a c, v = .slice a 0 c ∧ (a = none → c = 0)) ∨ ∃ g o cap, v = .slice (some ⟨g, o, none⟩) l.length cap ∧ l.length ≤ cap ∧ cap ≤ maxLen ∧ ∀ j z, l[j]? = some z → w.cell? ⟨g, o + j, none⟩ = some (I64 z)

theorem bw_mono {B B' : Nat} {w w' : World} (h : Below B' w w') (hB : B ≤ B') : Below B w w' := ⟨h.os, h.tape, h.output, h.size, fun k hk => h.block k (by omega)⟩
theorem bw_tr {w w1 w2 : World} (h : Below w.heap.size w w1) (k : Below w1.heap.size w1 w2) : Below w.heap.size w w2 := h.trans (bw_mono k h.size)

theorem Tab.pos {w : World} (h : Tab w) : 0 < w.heap.size := by
  have := h 0 (by decide)
  rcases Nat.eq_zero_or_pos w.heap.size with h0 | h0
  · have e : w.heap = #[] := Array.eq_empty_of_size_eq_zero h0
    simp [World.cell?, e] at this
  · exact h0
theorem Tab.bw {w w' : World} (h : Tab w) (hb : Below w.heap.size w w') : Tab w' := fun j hj => by
  rw [hb.cell (p := ⟨0, j, none⟩) h.pos]; exact h j hj
theorem Tab.drewN {w : World} (h : Tab w) (n : Nat) : Tab (w.drewN n) := h.bw (below_drewN (Below.refl _ _) n)
theorem Ints.bw {B : Nat} {w w' : World} {v : Value} {l : List Int} (h : Ints B w v l) (hb : Below w.heap.size w w') : Ints B w' v l := by
  refine ⟨h.1, ?_⟩
  rcases h.2 with h2 | ⟨g, cap, cur, rfl, h0, hg, r⟩
  · exact Or.inl h2
  · refine Or.inr ⟨g, cap, cur, rfl, h0, ?_, r⟩
    rw [hb.block g]
    · exact hg
    · rcases Nat.lt_or_ge g w.heap.size with h1 | h1
      · exact h1
      · rw [Array.getElem?_eq_none h1] at hg; cases hg
theorem Nums.bw {w w' : World} {v : Value} {l : List Int} (h : Nums w v l) (hb : Below w.heap.size w w') : Nums w' v l := by
  rcases h with h | ⟨g, o, cap, hv, h1, h2, hc⟩
  · exact Or.inl h
  · refine Or.inr ⟨g, o, cap, hv, h1, h2, fun j z hj => ?_⟩
    have := hc j z hj
    rw [hb.cell (p := ⟨g, o + j, none⟩)]
    · exact this
    · rcases Nat.lt_or_ge g w.heap.size with h1 | h1
      · exact h1
      · simp [World.cell?, Array.getElem?_eq_none h1] at this
theorem Ints.nums {B : Nat} {w : World} {v : Value} {l : List Int} (h : Ints B w v l) : Nums w v l := by
  rcases h.2 with ⟨rfl, h2⟩ | ⟨g, cap, cur, rfl, h0, hg, h3, h4, h5, h6⟩
  · exact Or.inl ⟨List.length_eq_zero_iff.1 h2, none, 0, rfl, fun _ => rfl⟩
  · refine Or.inr ⟨g, 0, cap, rfl, h3, h4, fun j z hj => ?_⟩
    have := World.ownsRow.cells h (g := g) rfl j (I64 z) (by simp [hj])
    cases j <;> simpa [Addr.add] using this

theorem Tryz.infoInt : (Tryz.prog.info? 3).map (fun i => (i.zero, i.size, i.bytes)) = some (some (.int .i64 0), 1, 8) := by kernel_rfl

theorem ints_nil (B : Nat) (w : World) : Ints B w (.slice none 0 0) [] := World.ownsRow_nil _ _ _ _

/-- Behind the append of one number. -/
theorem ints_snoc {w wr w1 : World} {lv v' : Value} {cur : List Int} {o : Obj} (c : Int) (hb : Below w.heap.size w wr) (hown : Ints w.heap.size wr lv cur) (hown' : w1.ownsRow w.heap.size 3 1 v' (cur.length + 1) (cur.map I64 ++ [.int .i64 c]))
    (hg : (wr.alloc o).grownBy w1 lv.ownBlock) : Ints w.heap.size w1 v' (cur ++ [c]) ∧ Below w.heap.size w w1 := by
  refine ⟨by simpa [Ints, I64] using hown', (hb.alloc hb.size o).grown hg (by have := hb.size; simp; omega) (fun k hk => (World.ownsRow.lt hown k hk).1)⟩

theorem wi_neg {x y : Int} (h : x < 0 ∨ y < 0) : wi x y = false := by
  unfold wi
  rcases h with h | h
  · have : ¬ 0 ≤ x := by omega
    simp [this]
  · have : ¬ 0 ≤ y := by omega
    simp [this]
theorem wi_iff {j q n : Nat} (hb : nd j q < 9223372036854775808) : wi (n : Int) (nd j q : Nat) = true ↔ 2 ^ (j + 1) * q ≤ n ∧ n + 1 < 2 ^ (j + 1) * q + 2 ^ (j + 1) := by
  unfold wi
  rw [lvl_nd hb, Int.toNat_natCast]
  simp only [Bool.and_eq_true, decide_eq_true_eq]
  have hp := Nat.two_pow_pos j
  have e := nd_mul j q
  rw [e, Nat.pow_succ]
  generalize 2 ^ j * 2 * q = A
  generalize 2 ^ j = p at *
  omega
/-- In the program's words. -/
theorem wi_shift {j q k m : Nat} (hb : nd j q < 9223372036854775808) : wi (nd k m : Nat) (nd j q : Nat) = true ↔ k ≤ j ∧ nd k m / 2 ^ (j + 1) = nd j q / 2 ^ (j + 1) := by
  rw [wi_iff hb, nd_div j q]
  have hp := Nat.two_pow_pos (j + 1)
  have e := nd_succ k m
  have hd := Nat.div_add_mod (nd k m) (2 ^ (j + 1))
  have hm := Nat.mod_lt (nd k m) hp
  constructor
  · rintro ⟨h1, h2⟩
    have hq : nd k m / 2 ^ (j + 1) = q := by
      apply Nat.div_eq_of_lt_le
      · rw [Nat.mul_comm]; exact h1
      · rw [Nat.add_mul, Nat.mul_comm]; omega
    refine ⟨?_, hq⟩
    apply Nat.le_of_not_lt
    intro hc
    obtain ⟨c, rfl⟩ : ∃ c, k = j + 1 + c := ⟨k - (j + 1), by omega⟩
    rw [Nat.pow_add, Nat.mul_assoc] at e
    generalize 2 ^ c * (2 * m + 1) = u at *
    have a1 : 2 ^ (j + 1) * q < 2 ^ (j + 1) * u := by omega
    have a2 : 2 ^ (j + 1) * u < 2 ^ (j + 1) * (q + 1) := by rw [Nat.mul_add]; omega
    have b1 := Nat.lt_of_mul_lt_mul_left a1
    have b2 := Nat.lt_of_mul_lt_mul_left a2
    omega
  · rintro ⟨hk, hq⟩
    rw [hq] at hd
    refine ⟨by omega, ?_⟩
    have hne : nd k m + 1 ≠ 2 ^ (j + 1) * (q + 1) := by
      rw [e]
      intro hc
      obtain ⟨c, rfl⟩ : ∃ c, j = k + c := ⟨j - k, by omega⟩
      rw [Nat.add_assoc, Nat.pow_add, Nat.mul_assoc] at hc
      have := Nat.eq_of_mul_eq_mul_left (Nat.two_pow_pos k) hc
      rw [Nat.pow_succ, Nat.mul_assoc, Nat.mul_left_comm] at this
      omega
    rw [Nat.mul_add] at hne
    omega

end Go.Proofs.YtcbafeneaoaglaaGreatDoor

/- The contract of SameNumbers: are two rows of numbers the same? -/
namespace Go.Proofs.YtcbafeneaoaglaaGreatDoor
open Go.RowKit

theorem Nums.form {w : World} {v : Value} {l : List Int} (h : Nums w v l) : (∃ p cap, v = .slice p l.length cap) ∧ l.length ≤ maxLen := by
  rcases h with ⟨rfl, a, c, rfl, _⟩ | ⟨g, o, cap, rfl, h1, h2, _⟩
  · exact ⟨⟨a, c, rfl⟩, Nat.zero_le _⟩
  · exact ⟨⟨_, cap, rfl⟩, by omega⟩
theorem Nums.open {w : World} {v : Value} {l : List Int} (h : Nums w v l) (hl : 0 < l.length) : ∃ g o cap, v = .slice (some ⟨g, o, none⟩) l.length cap ∧ ∀ j z, l[j]? = some z → w.cell? ⟨g, o + j, none⟩ = some (.int .i64 z) := by
  rcases h with ⟨rfl, a, c, rfl, _⟩ | ⟨g, o, cap, rfl, h1, h2, h3⟩
  · simp at hl
  · exact ⟨g, o, cap, rfl, h3⟩

set_option maxHeartbeats 1000000 in
theorem same_any (va vb : Value) (la lb : List Int) (w : World) (ha : Nums w va la) (hb : Nums w vb lb) :
    Calls Tryz.prog 98 #[va, vb] w fun e w' => e = .returned (.bool (decide (la = lb))) ∧ Below w.heap.size w w' := by
  by_cases hl : la.length = lb.length
  · by_cases h0 : la.length = 0
    · obtain ⟨⟨p, cap, rfl⟩, _⟩ := ha.form
      obtain ⟨⟨p', cap', rfl⟩, _⟩ := hb.form
      have e1 : la = [] := List.length_eq_zero_iff.1 h0
      have e2 : lb = [] := List.length_eq_zero_iff.1 (by omega)
      subst e1; subst e2
      clear ha hb h0 hl
      go_enter Tryz.func98, Tryz.ntmps98
      go_wp2_with fail
      go_loopw [13] (fun iv wr => iv = .int .i64 0 ∧ wr = w) (fun _ _ => 0)
      case atStart => exact ⟨rfl, rfl⟩
      case round =>
        obtain ⟨rfl, rfl⟩ := hrel
        go_wp2
        go_ret
        exact ⟨rfl, Below.refl _ _⟩
    · have hm := ha.form.2
      unfold maxLen at hm
      obtain ⟨g, o, cap, rfl, hA⟩ := ha.open (by omega)
      obtain ⟨g', o', cap', rfl, hB⟩ := hb.open (by omega)
      rw [← hl]
      obtain ⟨n, hn⟩ : ∃ n, n = la.length := ⟨_, rfl⟩
      rw [← hn]
      have HA := hide (And.intro hn (hn.trans hl))
      have HB : ∀ wr, Below w.heap.size w wr → ∀ i, i < n → ∃ a b, la[i]? = some a ∧ lb[i]? = some b ∧ wr.cell? ⟨g, o + i, none⟩ = some (.int .i64 a) ∧ wr.cell? ⟨g', o' + i, none⟩ = some (.int .i64 b) := by
        intro wr hbel i hi
        obtain ⟨a, h1⟩ : ∃ a, la[i]? = some a := ⟨_, List.getElem?_eq_getElem (by omega)⟩
        obtain ⟨b, h2⟩ : ∃ b, lb[i]? = some b := ⟨_, List.getElem?_eq_getElem (by omega)⟩
        refine ⟨a, b, h1, h2, ?_, ?_⟩
        · have := hA i a h1
          rw [hbel.cell (p := ⟨g, o + i, none⟩)]
          · exact this
          · rcases Nat.lt_or_ge g w.heap.size with h1 | h1
            · exact h1
            · simp [World.cell?, Array.getElem?_eq_none h1] at this
        · have := hB i b h2
          rw [hbel.cell (p := ⟨g', o' + i, none⟩)]
          · exact this
          · rcases Nat.lt_or_ge g' w.heap.size with h1 | h1
            · exact h1
            · simp [World.cell?, Array.getElem?_eq_none h1] at this
      have hn0 : 0 < n := by omega
      have hnm : n ≤ 9223372036854775807 := by omega
      clear ha hb hA hB hl hm hn h0
      go_enter Tryz.func98, Tryz.ntmps98
      go_wp2_with fail
      go_loopw [13] (fun iv wr => ∃ i : Nat, iv = .int .i64 i ∧ i ≤ n ∧ Hid (la.take i = lb.take i) ∧ Below w.heap.size w wr) (fun iv _ => (n - (intOf iv)).toNat)
      case atStart => exact ⟨0, rfl, by omega, by simp [Hid], Below.refl _ _⟩
      case round =>
        obtain ⟨i, rfl, hi, hp, hbel⟩ := hrel
        by_cases hin : i < n
        · obtain ⟨a, b, h1, h2, c1, c2⟩ := HB wr hbel i hin
          have H12 := hide (And.intro h1 h2)
          clear h1 h2
          have hi1 : (i : Int) < (n : Int) := by omega
          have hi2 : (0 : Int) ≤ (i : Int) := by omega
          by_cases hab : a = b
          · subst hab
            go_wp2_with fail
            go_quiet (fail)
            go_wp2_with fail
            go_roundw
            case rel =>
              refine ⟨i + 1, by go_num, by omega, ?_, below_drewN hbel _⟩
              unfold Hid
              rw [List.take_add_one, List.take_add_one, unhide hp, (unhide H12).1, (unhide H12).2]
            case measure => simp [intOf]; omega
          · have hab' : (a == b) = false := by simpa using hab
            have hab2 : (a != b) = true := by simpa using hab
            go_wp2_with fail
            go_quiet (fail)
            go_wp2_with fail
            go_ret
            have hd : decide (la = lb) = false := decide_eq_false (by
              rintro rfl
              have := (unhide H12).1.symm.trans (unhide H12).2
              exact hab (Option.some.inj this))
            rw [hd]
            exact ⟨rfl, below_drewN hbel _⟩
        · have hie : i = n := by omega
          subst hie
          go_wp2_with fail
          go_ret
          have hd : decide (la = lb) = true := decide_eq_true (by
            have := unhide hp
            rw [List.take_of_length_le (by have := (unhide HA).1; omega), List.take_of_length_le (by have := (unhide HA).2; omega)] at this
            exact this)
          rw [hd]
          exact ⟨rfl, hbel⟩
  · obtain ⟨⟨p, cap, rfl⟩, hm1⟩ := ha.form
    obtain ⟨⟨p', cap', rfl⟩, hm2⟩ := hb.form
    have hd : decide (la = lb) = false := decide_eq_false (fun c => hl (by rw [c]))
    rw [hd]
    generalize la.length = n at *
    generalize lb.length = n' at *
    have hd1 : ((n : Int) == (n' : Int)) = false := by rw [beq_eq_false_iff_ne]; omega
    have hd2 : ((n : Int) != (n' : Int)) = true := by rw [bne_iff_ne]; omega
    clear ha hb hd
    go_enter Tryz.func98, Tryz.ntmps98
    go_wp2
    go_ret
    exact ⟨rfl, Below.refl _ _⟩

end Go.Proofs.YtcbafeneaoaglaaGreatDoor
