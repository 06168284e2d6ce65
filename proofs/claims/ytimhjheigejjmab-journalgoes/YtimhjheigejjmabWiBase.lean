/- Plain mathematics for the proofs over package wire: numbers as rows of bytes, and the bit operations of the program as arithmetic. Nothing of the program is in this text. -/
import Derived.WalkKit
import Derived.WalkSpells
import Derived.WalkLawsBesides
import Derived.WalkSmall
import Derived.Laws.Bits128
import Derived.Laws.DeepNot64
import Derived.Laws.BitsAllLaws
namespace Go.Proofs.Ytimhjheigejjmab.Wi
open Go.RowKit

set_option maxRecDepth 100000 in
theorem hide {p : Prop} (h : p) : Hid p := h
set_option maxRecDepth 100000 in
theorem unhide {p : Prop} (h : Hid p) : p := h

/-- A number without its sign. -/
def zz (n : Int) : Nat := if 0 ≤ n then (2 * n).toNat else (-2 * n - 1).toNat
/-- The number whose form without a sign is z. -/
def uz (z : Nat) : Int := if z % 2 = 0 then (z / 2 : Nat) else -((z / 2 : Nat) : Int) - 1
/-- Seven bits a byte, the lowest ones first, at most f bytes ahead of the last one. -/
def vbF : Nat → Nat → List UInt8
  | 0, z => [UInt8.ofNat z]
  | f + 1, z => if z < 128 then [UInt8.ofNat z] else UInt8.ofNat (z % 128 + 128) :: vbF f (z / 128)
def vb (z : Nat) : List UInt8 := vbF 9 z
def enc (n : Int) : List UInt8 := vb (zz n)

set_option maxRecDepth 100000 in
theorem zz_lt (n : Int) (h1 : -9223372036854775808 ≤ n) (h2 : n ≤ 9223372036854775807) : zz n < 18446744073709551616 := by
  unfold zz; split <;> omega
set_option maxRecDepth 100000 in
theorem uz_zz (n : Int) : uz (zz n) = n := by
  unfold uz zz; split <;> split <;> omega
set_option maxRecDepth 100000 in
theorem zz_uz (z : Nat) : zz (uz z) = z := by
  unfold uz zz; split <;> split <;> omega

set_option maxRecDepth 100000 in
theorem vbF_small (f z : Nat) (h : z < 128) : vbF f z = [UInt8.ofNat z] := by
  cases f <;> simp [vbF, h]
set_option maxRecDepth 100000 in
theorem vbF_big (f z : Nat) (h : ¬ z < 128) : vbF (f + 1) z = UInt8.ofNat (z % 128 + 128) :: vbF f (z / 128) := by
  simp [vbF, h]
set_option maxRecDepth 100000 in
theorem vbF_length (f z : Nat) : 1 ≤ (vbF f z).length ∧ (vbF f z).length ≤ f + 1 := by
  induction f generalizing z with
  | zero => simp [vbF]
  | succ f ih =>
    by_cases h : z < 128
    · simp [vbF, h]
    · have := ih (z / 128); simp [vbF, h]; omega
set_option maxRecDepth 100000 in
theorem enc_length (n : Int) : 1 ≤ (enc n).length ∧ (enc n).length ≤ 10 := by
  have := vbF_length 9 (zz n); exact this

set_option maxRecDepth 100000 in
theorem nat_xor_ones (a : Nat) (h : a < 18446744073709551616) : a ^^^ 18446744073709551615 = 18446744073709551615 - a := by
  have h1 : (BitVec.ofNat 64 a ^^^ BitVec.allOnes 64).toNat = a ^^^ 18446744073709551615 := by
    rw [BitVec.toNat_xor, BitVec.toNat_allOnes, BitVec.toNat_ofNat, Nat.mod_eq_of_lt h]
  rw [← h1, BitVec.xor_allOnes, BitVec.toNat_not, BitVec.toNat_ofNat, Nat.mod_eq_of_lt h]

set_option maxRecDepth 100000 in
theorem fold_eq (n : Int) (h1 : -9223372036854775808 ≤ n) (h2 : n ≤ 9223372036854775807) :
    bits BinOp.xor IntKind.u64 (IntKind.u64.wrap (IntKind.u64.wrap n * 2)) (IntKind.u64.wrap (n / 9223372036854775808)) = (zz n : Int) := by
  simp only [IntKind.wrap_u64]
  by_cases h : 0 ≤ n
  · have e1 : n % 18446744073709551616 * 2 % 18446744073709551616 = 2 * n := by omega
    have e2 : n / 9223372036854775808 % 18446744073709551616 = 0 := by omega
    rw [e1, e2, u64_xor _ _ (by omega) (by omega) (by omega) (by omega)]
    simp [zz, h]
  · have e1 : n % 18446744073709551616 * 2 % 18446744073709551616 = 2 * n + 18446744073709551616 := by omega
    have e2 : n / 9223372036854775808 % 18446744073709551616 = 18446744073709551615 := by omega
    rw [e1, e2, u64_xor _ _ (by omega) (by omega) (by omega) (by omega)]
    have e3 : (18446744073709551615 : Int).toNat = 18446744073709551615 := by omega
    rw [e3, nat_xor_ones _ (by omega)]
    unfold zz; rw [if_neg h]; omega

set_option maxRecDepth 100000 in
theorem xor_comm_i64 (a b : Int) : bits BinOp.xor IntKind.i64 a b = bits BinOp.xor IntKind.i64 b a := by
  show IntKind.i64.wrap ((BitVec.ofInt 64 a ^^^ BitVec.ofInt 64 b).toNat : Int) = IntKind.i64.wrap ((BitVec.ofInt 64 b ^^^ BitVec.ofInt 64 a).toNat : Int)
  rw [BitVec.xor_comm]
set_option maxRecDepth 100000 in
theorem xor_zero_i64 (a : Nat) (h : a < 9223372036854775808) : bits BinOp.xor IntKind.i64 (a : Int) 0 = (a : Int) := by
  show IntKind.i64.wrap ((BitVec.ofInt 64 (a : Int) ^^^ BitVec.ofInt 64 0).toNat : Int) = _
  have h1 : BitVec.ofInt 64 0 = 0#64 := by decide
  rw [h1, BitVec.xor_zero, ofInt_u64 a (by omega)]
  simp [IntKind.wrap, IntKind.bits, IntKind.signed]
  omega

set_option maxRecDepth 100000 in
theorem unfold_eq (z : Nat) (h : z < 18446744073709551616) :
    bits BinOp.xor IntKind.i64 ((z : Int) / 2) (wrap64 (-wrap64 (bits BinOp.and IntKind.u64 (z : Int) 1))) = uz z := by
  rw [and_one_u64 _ (by omega) (by omega)]
  have e1 : (z : Int) / 2 = ((z / 2 : Nat) : Int) := by omega
  by_cases h2 : z % 2 = 0
  · have e2 : wrap64 (-wrap64 ((z : Int) % 2)) = 0 := by unfold wrap64; omega
    rw [e1, e2, xor_zero_i64 _ (by omega)]; simp [uz, h2]
  · have e2 : wrap64 (-wrap64 ((z : Int) % 2)) = -1 := by unfold wrap64; omega
    rw [e1, e2, xor_comm_i64, i64_not _ (by omega)]; simp [uz, h2]; omega

set_option maxRecDepth 100000 in
theorem and127_u64 (z : Nat) (h : z < 18446744073709551616) : bits BinOp.and IntKind.u64 (z : Int) 127 = ((z % 128 : Nat) : Int) := by
  have := u64_and_nat z 127 h (by omega)
  have e : z &&& 127 = z % 128 := Nat.and_two_pow_sub_one_eq_mod z 7
  rw [e] at this; exact this
set_option maxRecDepth 100000 in
theorem byte_more (z : Nat) (h : z < 18446744073709551616) :
    bits BinOp.or IntKind.u8 (bits BinOp.and IntKind.u64 (z : Int) 127 % 256) 128 = ((UInt8.ofNat (z % 128 + 128)).toNat : Int) := by
  rw [and127_u64 z h]
  have e : ((z % 128 : Nat) : Int) % 256 = ((z % 128 : Nat) : Int) := by omega
  rw [e, u8_or128_right _ (by omega) (by omega)]
  simp; omega

/-- The number that stands at place k of l, read from its byte number i on, z being what was read ahead of it; the place behind it. -/
def tn (l : List UInt8) : Nat → Nat → Nat → Nat → Option (Int × Nat)
  | 0, _, _, _ => none
  | f + 1, i, k, z => match l[k]? with
    | none => none
    | some c => if i = 9 ∧ 1 < c.toNat then none else if 0 < i ∧ c.toNat = 0 then none else
        if c.toNat < 128 then some (uz (z + c.toNat % 128 * 128 ^ i), k + 1) else tn l f (i + 1) (k + 1) (z + c.toNat % 128 * 128 ^ i)
def tnum (l : List UInt8) (k : Nat) : Option (Int × Nat) := tn l 10 0 k 0

set_option maxRecDepth 100000 in
theorem tn_end (l : List UInt8) (f i k z : Nat) (h : l[k]? = none) : tn l (f + 1) i k z = none := by simp [tn, h]
set_option maxRecDepth 100000 in
theorem tn_nine (l : List UInt8) (f k z : Nat) (c : UInt8) (h : l[k]? = some c) (h1 : 1 < c.toNat) : tn l (f + 1) 9 k z = none := by simp [tn, h, h1]
set_option maxRecDepth 100000 in
theorem tn_zero (l : List UInt8) (f i k z : Nat) (c : UInt8) (h : l[k]? = some c) (h1 : 0 < i) (h2 : c.toNat = 0) : tn l (f + 1) i k z = none := by
  simp only [tn, h]; rw [if_neg (by omega), if_pos ⟨h1, h2⟩]
set_option maxRecDepth 100000 in
theorem tn_last (l : List UInt8) (f i k z : Nat) (c : UInt8) (h : l[k]? = some c) (h1 : ¬ (i = 9 ∧ 1 < c.toNat)) (h2 : ¬ (0 < i ∧ c.toNat = 0)) (h3 : c.toNat < 128) :
    tn l (f + 1) i k z = some (uz (z + c.toNat % 128 * 128 ^ i), k + 1) := by
  simp only [tn, h]; rw [if_neg h1, if_neg h2, if_pos h3]
set_option maxRecDepth 100000 in
theorem tn_more (l : List UInt8) (f i k z : Nat) (c : UInt8) (h : l[k]? = some c) (h1 : ¬ (i = 9 ∧ 1 < c.toNat)) (h2 : ¬ (0 < i ∧ c.toNat = 0)) (h3 : ¬ c.toNat < 128) :
    tn l (f + 1) i k z = tn l f (i + 1) (k + 1) (z + c.toNat % 128 * 128 ^ i) := by
  simp only [tn, h]; rw [if_neg h1, if_neg h2, if_neg h3]

set_option maxRecDepth 100000 in
theorem pow_le9 (i : Nat) (h : i ≤ 8) : 128 ^ i ≤ 72057594037927936 := by
  have := Nat.pow_le_pow_right (n := 128) (by omega) h
  have e : 128 ^ 8 = 72057594037927936 := by decide
  omega
set_option maxRecDepth 100000 in
theorem step_lt (z i c : Nat) (hz : z < 128 ^ i) (hi : i ≤ 9) (h9 : i = 9 → c ≤ 1) : z + c % 128 * 128 ^ i < 18446744073709551616 ∧ c % 128 * 128 ^ i < 18446744073709551616 := by
  have hm : c % 128 < 128 := Nat.mod_lt _ (by omega)
  by_cases h : i = 9
  · subst h
    have h1 := h9 rfl
    have e : (128 : Nat) ^ 9 = 9223372036854775808 := by decide
    rw [e] at hz ⊢
    have : c % 128 ≤ 1 := by omega
    have : c % 128 * 9223372036854775808 ≤ 1 * 9223372036854775808 := Nat.mul_le_mul_right _ this
    omega
  · have hp := pow_le9 i (by omega)
    have : c % 128 * 128 ^ i ≤ 127 * 128 ^ i := Nat.mul_le_mul_right _ (by omega)
    omega
set_option maxRecDepth 100000 in
theorem step_pow (z i c : Nat) (hz : z < 128 ^ i) : z + c % 128 * 128 ^ i < 128 ^ (i + 1) := by
  have hm : c % 128 < 128 := Nat.mod_lt _ (by omega)
  have : c % 128 * 128 ^ i ≤ 127 * 128 ^ i := Nat.mul_le_mul_right _ (by omega)
  rw [Nat.pow_succ]; omega
set_option maxRecDepth 100000 in
theorem or_step (z i c : Nat) (hz : z < 128 ^ i) (hi : i ≤ 9) (h9 : i = 9 → c ≤ 1) :
    bits BinOp.or IntKind.u64 (z : Int) (IntKind.u64.wrap (IntKind.u64.wrap (bits BinOp.and IntKind.i64 (c : Int) 127) * 2 ^ (7 * i))) = ((z + c % 128 * 128 ^ i : Nat) : Int) := by
  have hs := step_lt z i c hz hi h9
  have hp : (2 : Int) ^ (7 * i) = ((128 ^ i : Nat) : Int) := by
    rw [Int.pow_mul]; simp
  rw [i64_and127]
  simp only [IntKind.wrap_u64]
  have e1 : ((c : Int) % 128) % 18446744073709551616 = ((c % 128 : Nat) : Int) := by omega
  rw [e1, hp, ← Int.natCast_mul]
  have e2 : ((c % 128 * 128 ^ i : Nat) : Int) % 18446744073709551616 = ((c % 128 * 128 ^ i : Nat) : Int) := by omega
  rw [e2, u64_or_nat _ _ (by omega) hs.2]
  have e3 : (128 : Nat) ^ i = 2 ^ (7 * i) := by rw [Nat.pow_mul]
  rw [e3] at hz ⊢
  have := Nat.two_pow_add_eq_or_of_lt hz (c % 128)
  rw [Nat.or_comm, Nat.mul_comm (c % 128), ← this, Nat.add_comm]

set_option maxRecDepth 100000 in
theorem or_step9 (z c : Nat) (hz : z < 128 ^ 9) (h9 : c ≤ 1) :
    bits BinOp.or IntKind.u64 (z : Int) (IntKind.u64.wrap (IntKind.u64.wrap (bits BinOp.and IntKind.i64 (c : Int) 127) * 9223372036854775808)) = ((z + c % 128 * 128 ^ 9 : Nat) : Int) := by
  have h := or_step z 9 c hz (by omega) (fun _ => h9)
  have e : (2 : Int) ^ (7 * 9) = 9223372036854775808 := by decide
  rw [e] at h; exact h
set_option maxRecDepth 100000 in
theorem or_step0 (z c : Nat) (hz : z < 128 ^ 0) :
    bits BinOp.or IntKind.u64 (z : Int) (IntKind.u64.wrap (IntKind.u64.wrap (bits BinOp.and IntKind.i64 (c : Int) 127))) = ((z + c % 128 * 128 ^ 0 : Nat) : Int) := by
  have h := or_step z 0 c hz (by omega) (by omega)
  have e : (2 : Int) ^ (7 * 0) = 1 := by decide
  rw [e, Int.mul_one] at h; exact h

set_option maxRecDepth 100000 in
theorem tn_place (l : List UInt8) (f i k z : Nat) (n : Int) (k' : Nat) (h : tn l f i k z = some (n, k')) : k < k' ∧ k' ≤ k + f ∧ k' ≤ l.length := by
  induction f generalizing i k z with
  | zero => simp [tn] at h
  | succ f ih =>
    cases hl : l[k]? with
    | none => rw [tn_end l f i k z hl] at h; cases h
    | some c =>
      have hk : k < l.length := by
        rcases Nat.lt_or_ge k l.length with h1 | h1
        · exact h1
        · rw [List.getElem?_eq_none h1] at hl; cases hl
      simp only [tn, hl] at h
      split at h
      · cases h
      · split at h
        · cases h
        · split at h
          · simp at h; omega
          · have := ih (i + 1) (k + 1) _ h; omega
set_option maxRecDepth 100000 in
theorem tn_bound (l : List UInt8) (f i k z : Nat) (n : Int) (k' : Nat) (h : tn l f i k z = some (n, k')) (hi : i + f = 10) (hz : z < 128 ^ i) : -9223372036854775808 ≤ n ∧ n ≤ 9223372036854775807 := by
  induction f generalizing i k z with
  | zero => simp [tn] at h
  | succ f ih =>
    cases hl : l[k]? with
    | none => rw [tn_end l f i k z hl] at h; cases h
    | some c =>
      simp only [tn, hl] at h
      split at h
      · cases h
      · rename_i h1
        split at h
        · cases h
        · split at h
          · have := (step_lt z i c.toNat hz (by omega) (by omega)).1
            simp at h
            rw [← h.1]; unfold uz; split <;> omega
          · exact ih (i + 1) (k + 1) _ h (by omega) (step_pow _ _ _ hz)
set_option maxRecDepth 100000 in
theorem tnum_place {l : List UInt8} {k : Nat} {n : Int} {k' : Nat} (h : tnum l k = some (n, k')) : k < k' ∧ k' ≤ k + 10 ∧ k' ≤ l.length := tn_place _ _ _ _ _ _ _ h
set_option maxRecDepth 100000 in
theorem tnum_bound {l : List UInt8} {k : Nat} {n : Int} {k' : Nat} (h : tnum l k = some (n, k')) : -9223372036854775808 ≤ n ∧ n ≤ 9223372036854775807 := tn_bound _ _ _ _ _ _ _ h rfl (by decide)

set_option maxRecDepth 100000 in
theorem byte_at (s : ByteArray) (k : Nat) (h : k < s.size) : s.data.toList[k]? = some s[k] := by
  rw [List.getElem?_eq_getElem (by simpa using h)]; rfl
set_option maxRecDepth 100000 in
theorem byte_past (s : ByteArray) (k : Nat) (h : s.size ≤ k) : s.data.toList[k]? = none := List.getElem?_eq_none (by simpa using h)

end Go.Proofs.Ytimhjheigejjmab.Wi
