/- Plain mathematics for the proofs over package index: a number from 0 on is the m-th node of the level k, 2^k (2 m + 1) - 1. Nothing of the program is in this text. -/
import Derived.WalkKit
import Derived.WalkSpells
import Derived.WalkLawsBesides
import Derived.WalkSmall
import Derived.Laws.Bits128
import Derived.Laws.DeepNot64
import Derived.Laws.BitsAllLaws
import Derived.Shelf.Spec.TrailingZeros
namespace Go.Proofs.YtnfhbmlmemifjaaGreatDoor
open Go.RowKit
theorem hide {p : Prop} (h : p) : Hid p := h
theorem unhide {p : Prop} (h : Hid p) : p := h
theorem nat_xor_ones (a : Nat) (h : a < 18446744073709551616) : a ^^^ 18446744073709551615 = 18446744073709551615 - a := by
  have h1 : (BitVec.ofNat 64 a ^^^ BitVec.allOnes 64).toNat = a ^^^ 18446744073709551615 := by
    rw [BitVec.toNat_xor, BitVec.toNat_allOnes, BitVec.toNat_ofNat, Nat.mod_eq_of_lt h]
  rw [← h1, BitVec.xor_allOnes, BitVec.toNat_not, BitVec.toNat_ofNat, Nat.mod_eq_of_lt h]
def nd (k m : Nat) : Nat := 2 ^ k * (2 * m + 1) - 1
theorem nd_succ (k m : Nat) : nd k m + 1 = 2 ^ k * (2 * m + 1) := by
  have : 0 < 2 ^ k * (2 * m + 1) := Nat.mul_pos (Nat.two_pow_pos k) (by omega)
  unfold nd; omega
theorem exists_nd (x : Nat) : ∃ k m, x = nd k m := by
  have h : ∀ f n, 0 < n → n < 2 ^ f → ∃ k m, n = 2 ^ k * (2 * m + 1) := fun f n h0 h => by
    obtain ⟨m, hm, _⟩ := Lib.ctzFrom_spec f n h0 h
    exact ⟨_, m, hm⟩
  obtain ⟨k, m, hm⟩ := h (x + 1) (x + 1) (by omega) (Nat.lt_two_pow_self)
  exact ⟨k, m, by have := nd_succ k m; omega⟩
theorem nd_inj {k m j n : Nat} (h : nd k m = nd j n) : k = j ∧ m = n := by
  have h1 : 2 ^ k * (2 * m + 1) = 2 ^ j * (2 * n + 1) := by rw [← nd_succ, ← nd_succ, h]
  have key : ∀ a b p q : Nat, a < b → 2 ^ a * (2 * p + 1) ≠ 2 ^ b * (2 * q + 1) := by
    intro a b p q hab he
    obtain ⟨d, rfl⟩ : ∃ d, b = a + 1 + d := ⟨b - a - 1, by omega⟩
    rw [Nat.pow_add, Nat.pow_add, Nat.mul_assoc, Nat.mul_assoc] at he
    have := Nat.eq_of_mul_eq_mul_left (Nat.two_pow_pos a) he
    omega
  rcases Nat.lt_trichotomy k j with hk | hk | hk
  · exact absurd h1 (key _ _ _ _ hk)
  · subst hk
    have := Nat.eq_of_mul_eq_mul_left (Nat.two_pow_pos k) h1
    exact ⟨rfl, by omega⟩
  · exact absurd h1.symm (key _ _ _ _ hk)
theorem nd_eq (k m : Nat) : nd k m = 2 * (2 ^ k * m) + 2 ^ k - 1 := by
  unfold nd
  rw [Nat.mul_add, Nat.mul_one, Nat.mul_left_comm]
theorem nd_lt {k m : Nat} (h : nd k m < 9223372036854775808) : k < 64 ∧ (k = 63 → m = 0) := by
  have hp := Nat.two_pow_pos k
  have e := nd_succ k m
  have hle : 2 ^ k ≤ 2 ^ k * (2 * m + 1) := Nat.le_mul_of_pos_right _ (by omega)
  have hk : k < 64 := by
    apply Nat.lt_of_not_le
    intro hc
    have : 2 ^ 64 ≤ 2 ^ k := Nat.pow_le_pow_right (by decide) hc
    omega
  refine ⟨hk, ?_⟩
  rintro rfl
  have h63 : (2 : Nat) ^ 63 = 9223372036854775808 := by decide
  rw [h63] at e
  omega
theorem two_pow_le {j k : Nat} (h : j ≤ k) : 2 ^ j ≤ 2 ^ k := Nat.pow_le_pow_right (by decide) h
theorem two_pow_62 {k : Nat} (h : k < 63) : 2 ^ k ≤ 4611686018427387904 := by
  have := two_pow_le (show k ≤ 62 by omega)
  have h62 : (2 : Nat) ^ 62 = 4611686018427387904 := by decide
  omega
theorem ctz_nd (k m : Nat) (h : nd k m < 9223372036854775808) : Lib.ctz 64 (18446744073709551615 - nd k m) = k := by
  have hk := nd_lt h
  have e := nd_succ k m
  have h0 : 18446744073709551615 - nd k m ≠ 0 := by omega
  obtain ⟨m', hm, _⟩ := Lib.ctzFrom_spec 64 (18446744073709551615 - nd k m) (by omega) (by omega)
  have e1 : Lib.ctz 64 (18446744073709551615 - nd k m) = Lib.ctzFrom 64 (18446744073709551615 - nd k m) := by simp [Lib.ctz, h0]
  rw [e1]
  generalize Lib.ctzFrom 64 (18446744073709551615 - nd k m) = j at hm
  obtain ⟨d, hd⟩ : ∃ d, 64 = k + (d + 1) := ⟨63 - k, by omega⟩
  have h64 : (2 : Nat) ^ 64 = 18446744073709551616 := by decide
  rw [hd, Nat.pow_add, Nat.pow_succ] at h64
  have hq : 2 ^ k * (2 * (2 ^ d - m - 1) + 1) = 18446744073709551615 - nd k m := by
    have h2 : 2 ^ k * (2 * (2 ^ d - m - 1) + 1) + 2 ^ k * (2 * m + 1) = 2 ^ k * (2 ^ d * 2) := by
      rw [← Nat.mul_add]
      have hlt : 2 * m + 1 < 2 ^ d * 2 := by
        apply Nat.lt_of_mul_lt_mul_left (a := 2 ^ k)
        omega
      congr 1
      omega
    omega
  have : nd j m' = nd k (2 ^ d - m - 1) := by unfold nd; rw [hq, ← hm]
  exact (nd_inj this).1
def lvl (x : Int) : Int := if x < 0 then -1 else (Lib.ctz 64 (18446744073709551615 - x.toNat) : Nat)
theorem lvl_neg {x : Int} (h : x < 0) : lvl x = -1 := by simp [lvl, h]
theorem lvl_nd {k m : Nat} (h : nd k m < 9223372036854775808) : lvl (nd k m : Nat) = (k : Nat) := by
  have : ¬ ((nd k m : Nat) : Int) < 0 := by omega
  simp only [lvl, this, if_false, Int.toNat_natCast, ctz_nd k m h]
theorem lvl_cases (x : Int) (h2 : x ≤ 9223372036854775807) : (x < 0 ∧ lvl x = -1) ∨ (∃ m : Nat, x = (nd 0 m : Nat) ∧ nd 0 m < 9223372036854775808 ∧ lvl x = 0) ∨ (∃ k m : Nat, x = (nd (k + 1) m : Nat) ∧ nd (k + 1) m < 9223372036854775808 ∧ lvl x = ((k + 1 : Nat) : Int)) := by
  by_cases h : x < 0
  · exact Or.inl ⟨h, lvl_neg h⟩
  · obtain ⟨n, rfl⟩ : ∃ n : Nat, x = n := ⟨x.toNat, by omega⟩
    obtain ⟨k, m, rfl⟩ := exists_nd n
    have hb : nd k m < 9223372036854775808 := by omega
    cases k with
    | zero => exact Or.inr (Or.inl ⟨m, rfl, hb, by rw [lvl_nd hb]; rfl⟩)
    | succ k => exact Or.inr (Or.inr ⟨k, m, rfl, hb, lvl_nd hb⟩)
def hf (x : Int) : Int := if 0 < lvl x then ((2 ^ ((lvl x).toNat - 1) : Nat) : Int) else 0
def lfB (x : Int) : Bool := decide (0 < lvl x)
def lfV (x : Int) : Int := if 0 < lvl x then x - hf x else 0
def rtB (x : Int) : Bool := decide (0 < lvl x ∧ x ≠ 9223372036854775807)
def rtV (x : Int) : Int := if 0 < lvl x ∧ x ≠ 9223372036854775807 then x + hf x else 0
def spF (x : Int) : Int := if x < 0 ∨ x = 9223372036854775807 then -1 else (x - (2 ^ (lvl x).toNat - 1 : Nat)) / 2
def spT (x : Int) : Int := if x < 0 ∨ x = 9223372036854775807 then -1 else (x + (2 ^ (lvl x).toNat - 1 : Nat)) / 2
def isT (L : Int) : Bool := (List.range 31).any fun d => L == ((2 ^ d : Nat) : Int)
theorem isT_iff {L : Int} : isT L = true ↔ ∃ d, d ≤ 30 ∧ L = ((2 ^ d : Nat) : Int) := by
  simp only [isT, List.any_eq_true, List.mem_range, beq_iff_eq]
  constructor
  · rintro ⟨d, h, e⟩; exact ⟨d, by omega, e⟩
  · rintro ⟨d, h, e⟩; exact ⟨d, by omega, e⟩
def wid (L : Int) : Int := if isT L = true then 2 * L - 1 else 0
def inn (x L : Int) : Bool := isT L && decide (0 ≤ x) && decide (x ≤ 2 * L - 2)
theorem pow30 {d : Nat} (h : d ≤ 30) : 2 ^ d ≤ 1073741824 := by
  have := two_pow_le h
  have e : (2 : Nat) ^ 30 = 1073741824 := by decide
  omega
theorem div_mul_add {p m r : Nat} (h : r < p) : (p * m + r) / p = m := by
  rw [Nat.mul_add_div (by omega), Nat.div_eq_of_lt h, Nat.add_zero]
theorem nd_div (k m : Nat) : nd k m / 2 ^ (k + 1) = m := by
  have hp := Nat.two_pow_pos k
  have : nd k m = 2 ^ (k + 1) * m + (2 ^ k - 1) := by rw [nd_eq, Nat.pow_succ, Nat.mul_comm (2 ^ k) 2, Nat.mul_assoc]; omega
  rw [this]
  exact div_mul_add (by rw [Nat.pow_succ]; omega)
theorem and_pred {n : Nat} (h : 0 < n) : (n &&& (n - 1) = 0) ↔ ∃ d, n = 2 ^ d := by
  obtain ⟨k, m, hk⟩ := exists_nd (n - 1)
  have e := nd_succ k m
  have hn : n = 2 ^ k * (2 * m + 1) := by omega
  constructor
  · intro h0
    refine ⟨k, ?_⟩
    have h1 : (n &&& (n - 1)) / 2 ^ (k + 1) = 0 := by rw [h0]; simp
    rw [Nat.and_div_two_pow, hk, nd_div] at h1
    have hp := Nat.two_pow_pos k
    have a1 : n / 2 ^ (k + 1) = m := by
      have : n = 2 ^ (k + 1) * m + 2 ^ k := by rw [hn, Nat.mul_add, Nat.pow_succ, Nat.mul_one, Nat.mul_assoc]
      rw [this]
      exact div_mul_add (by rw [Nat.pow_succ]; omega)
    rw [a1, Nat.and_self] at h1
    rw [hn, h1]; simp
  · rintro ⟨d, rfl⟩
    rw [Nat.and_two_pow_sub_one_eq_mod]
    exact Nat.mod_self _
theorem isT_and {n : Nat} (h : 0 < n) (h2 : n ≤ 1073741824) : isT (n : Int) = true ↔ n &&& (n - 1) = 0 := by
  rw [and_pred h, isT_iff]
  constructor
  · rintro ⟨d, _, e⟩; exact ⟨d, by omega⟩
  · rintro ⟨d, e⟩
    refine ⟨d, ?_, by rw [e]⟩
    apply Nat.le_of_not_lt
    intro hc
    have := two_pow_le (show 31 ≤ d by omega)
    have e31 : (2 : Nat) ^ 31 = 2147483648 := by decide
    omega
theorem isT_small {L : Int} (h : L < 1) : isT L = false := by
  cases e : isT L
  · rfl
  · obtain ⟨d, _, rfl⟩ := isT_iff.1 e
    have := Nat.two_pow_pos d
    omega
theorem isT_great {L : Int} (h : 1073741824 < L) : isT L = false := by
  cases e : isT L
  · rfl
  · obtain ⟨d, hd, rfl⟩ := isT_iff.1 e
    have := pow30 hd
    omega
theorem isT_bounds {L : Int} (h : isT L = true) : 1 ≤ L ∧ L ≤ 1073741824 := by
  obtain ⟨d, hd, rfl⟩ := isT_iff.1 h
  have := pow30 hd
  have := Nat.two_pow_pos d
  omega
theorem wrap_i64_nat (n : Nat) (h : n < 9223372036854775808) : IntKind.i64.wrap (n : Int) = (n : Int) := by
  have e : (n : Int) % 2 ^ 64 = n := Int.emod_eq_of_lt (by omega) (by omega)
  simp only [IntKind.wrap, IntKind.bits, IntKind.signed, e]
  rw [if_neg]
  simp
  omega
theorem i64_and_nat (a b : Nat) (ha : a < 9223372036854775808) (hb : b < 9223372036854775808) : bits .and .i64 (a : Int) (b : Int) = ((a &&& b : Nat) : Int) := by
  have hx : a &&& b < 2 ^ 63 := Nat.and_lt_two_pow _ (by omega)
  show IntKind.i64.wrap ((BitVec.ofInt 64 (a : Int) &&& BitVec.ofInt 64 (b : Int)).toNat : Int) = _
  rw [BitVec.toNat_and, ofInt_u64 a (by omega), ofInt_u64 b (by omega)]
  exact wrap_i64_nat _ (by omega)
def abv (x : Int) : Int := (nd ((lvl x).toNat + 1) (x.toNat / 2 ^ ((lvl x).toNat + 1) / 2) : Nat)
def parB (x L : Int) : Bool := inn x L && decide (x ≠ L - 1)
theorem span_room {k m : Nat} (h : nd k m < 9223372036854775808) (hk : k < 63) : nd k m + 2 ^ k < 9223372036854775808 := by
  have e := nd_succ k m
  obtain ⟨c, hc⟩ : ∃ c, 63 = k + (c + 1) := ⟨62 - k, by omega⟩
  have h63 : (2 : Nat) ^ 63 = 9223372036854775808 := by decide
  rw [hc, Nat.pow_add, Nat.pow_succ] at h63
  have h1 : 2 ^ k * (2 * m + 1) ≤ 2 ^ k * (2 ^ c * 2) := by omega
  have h2 := Nat.le_of_mul_le_mul_left h1 (Nat.two_pow_pos k)
  have h3 : 2 ^ k * (2 * m + 1 + 1) ≤ 2 ^ k * (2 ^ c * 2) := Nat.mul_le_mul_left _ (by omega)
  rw [Nat.mul_add _ (2 * m + 1) 1, Nat.mul_one] at h3
  omega
theorem right_room {k m : Nat} (h : nd (k + 1) m < 9223372036854775808) (hX : ((nd (k + 1) m : Nat) : Int) ≠ 9223372036854775807) : nd (k + 1) m + 2 ^ k < 9223372036854775808 := by
  have hk := nd_lt h
  have hk2 : k + 1 < 63 := by
    rcases Nat.lt_or_ge (k + 1) 63 with h | h
    · exact h
    · have e1 : k + 1 = 63 := by omega
      have e2 := hk.2 e1
      rw [e1, e2] at hX
      exact absurd rfl hX
  have h1 := span_room h hk2
  rw [Nat.pow_succ] at h1
  omega
end Go.Proofs.YtnfhbmlmemifjaaGreatDoor
