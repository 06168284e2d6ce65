/- Texts joined: WiBase WiMem WiWrA WiWrB WiCodec. -/
import Derived.WalkKit
import Derived.WalkSpells
import Derived.WalkLawsBesides
import Derived.WalkSmall
import Derived.Laws.Bits128
import Derived.Laws.DeepNot64
import Derived.Laws.BitsAllLaws
import Derived.Test.YtfnpeiikjiffeaaGreatProg
import Derived.Maps.AppendAt
import Derived.Lib.AppendStr
import Derived.Laws.BytesString
/- Plain mathematics for the proofs over package wire: numbers as rows of bytes, and the bit operations of the program as arithmetic. Nothing of the program is in this text. -/
namespace Go.Proofs.YtfnpeiikjiffeaaGreat.Wi
open Go.RowKit

set_option maxRecDepth 100000 in
theorem hide {p : Prop} (h : p) : Hid p := h
set_option maxRecDepth 100000 in
theorem unhide {p : Prop} (h : Hid p) : p := h

/-- A number without its sign. -/
def zz (n : Int) : Nat := if 0 ≤ n then (2 * n).toNat else (-2 * n - 1).toNat
/-- The number whose form without a sign is z. -/
def uz (z : Nat) : Int := if z % 2 = 0 then (z / 2 : Nat) else -((z / 2 : Nat) : Int) - 1
/-- Seven bits a byte, the lowest ones first, at most f bytes ahead of the last one. -/
def vbF : Nat → Nat → List UInt8
  | 0, z => [UInt8.ofNat z]
  | f + 1, z => if z < 128 then [UInt8.ofNat z] else UInt8.ofNat (z % 128 + 128) :: vbF f (z / 128)
def vb (z : Nat) : List UInt8 := vbF 9 z
def enc (n : Int) : List UInt8 := vb (zz n)

set_option maxRecDepth 100000 in
theorem zz_lt (n : Int) (h1 : -9223372036854775808 ≤ n) (h2 : n ≤ 9223372036854775807) : zz n < 18446744073709551616 := by
  unfold zz; split <;> omega
set_option maxRecDepth 100000 in
theorem uz_zz (n : Int) : uz (zz n) = n := by
  unfold uz zz; split <;> split <;> omega
set_option maxRecDepth 100000 in
theorem zz_uz (z : Nat) : zz (uz z) = z := by
  unfold uz zz; split <;> split <;> omega

set_option maxRecDepth 100000 in
theorem vbF_small (f z : Nat) (h : z < 128) : vbF f z = [UInt8.ofNat z] := by
  cases f <;> simp [vbF, h]
set_option maxRecDepth 100000 in
theorem vbF_big (f z : Nat) (h : ¬ z < 128) : vbF (f + 1) z = UInt8.ofNat (z % 128 + 128) :: vbF f (z / 128) := by
  simp [vbF, h]
set_option maxRecDepth 100000 in
theorem vbF_length (f z : Nat) : 1 ≤ (vbF f z).length ∧ (vbF f z).length ≤ f + 1 := by
  induction f generalizing z with
  | zero => simp [vbF]
  | succ f ih =>
    by_cases h : z < 128
    · simp [vbF, h]
    · have := ih (z / 128); simp [vbF, h]; omega
set_option maxRecDepth 100000 in
theorem enc_length (n : Int) : 1 ≤ (enc n).length ∧ (enc n).length ≤ 10 := by
  have := vbF_length 9 (zz n); exact this

set_option maxRecDepth 100000 in
theorem nat_xor_ones (a : Nat) (h : a < 18446744073709551616) : a ^^^ 18446744073709551615 = 18446744073709551615 - a := by
  have h1 : (BitVec.ofNat 64 a ^^^ BitVec.allOnes 64).toNat = a ^^^ 18446744073709551615 := by
    rw [BitVec.toNat_xor, BitVec.toNat_allOnes, BitVec.toNat_ofNat, Nat.mod_eq_of_lt h]
  rw [← h1, BitVec.xor_allOnes, BitVec.toNat_not, BitVec.toNat_ofNat, Nat.mod_eq_of_lt h]

set_option maxRecDepth 100000 in
theorem fold_eq (n : Int) (h1 : -9223372036854775808 ≤ n) (h2 : n ≤ 9223372036854775807) :
    bits BinOp.xor IntKind.u64 (IntKind.u64.wrap (IntKind.u64.wrap n * 2)) (IntKind.u64.wrap (n / 9223372036854775808)) = (zz n : Int) := by
  simp only [IntKind.wrap_u64]
  by_cases h : 0 ≤ n
  · have e1 : n % 18446744073709551616 * 2 % 18446744073709551616 = 2 * n := by omega
    have e2 : n / 9223372036854775808 % 18446744073709551616 = 0 := by omega
    rw [e1, e2, u64_xor _ _ (by omega) (by omega) (by omega) (by omega)]
    simp [zz, h]
  · have e1 : n % 18446744073709551616 * 2 % 18446744073709551616 = 2 * n + 18446744073709551616 := by omega
    have e2 : n / 9223372036854775808 % 18446744073709551616 = 18446744073709551615 := by omega
    rw [e1, e2, u64_xor _ _ (by omega) (by omega) (by omega) (by omega)]
    have e3 : (18446744073709551615 : Int).toNat = 18446744073709551615 := by omega
    rw [e3, nat_xor_ones _ (by omega)]
    unfold zz; rw [if_neg h]; omega

set_option maxRecDepth 100000 in
theorem xor_comm_i64 (a b : Int) : bits BinOp.xor IntKind.i64 a b = bits BinOp.xor IntKind.i64 b a := by
  show IntKind.i64.wrap ((BitVec.ofInt 64 a ^^^ BitVec.ofInt 64 b).toNat : Int) = IntKind.i64.wrap ((BitVec.ofInt 64 b ^^^ BitVec.ofInt 64 a).toNat : Int)
  rw [BitVec.xor_comm]
set_option maxRecDepth 100000 in
theorem xor_zero_i64 (a : Nat) (h : a < 9223372036854775808) : bits BinOp.xor IntKind.i64 (a : Int) 0 = (a : Int) := by
  show IntKind.i64.wrap ((BitVec.ofInt 64 (a : Int) ^^^ BitVec.ofInt 64 0).toNat : Int) = _
  have h1 : BitVec.ofInt 64 0 = 0#64 := by decide
  rw [h1, BitVec.xor_zero, ofInt_u64 a (by omega)]
  simp [IntKind.wrap, IntKind.bits, IntKind.signed]
  omega

set_option maxRecDepth 100000 in
theorem unfold_eq (z : Nat) (h : z < 18446744073709551616) :
    bits BinOp.xor IntKind.i64 ((z : Int) / 2) (wrap64 (-wrap64 (bits BinOp.and IntKind.u64 (z : Int) 1))) = uz z := by
  rw [and_one_u64 _ (by omega) (by omega)]
  have e1 : (z : Int) / 2 = ((z / 2 : Nat) : Int) := by omega
  by_cases h2 : z % 2 = 0
  · have e2 : wrap64 (-wrap64 ((z : Int) % 2)) = 0 := by unfold wrap64; omega
    rw [e1, e2, xor_zero_i64 _ (by omega)]; simp [uz, h2]
  · have e2 : wrap64 (-wrap64 ((z : Int) % 2)) = -1 := by unfold wrap64; omega
    rw [e1, e2, xor_comm_i64, i64_not _ (by omega)]; simp [uz, h2]; omega

set_option maxRecDepth 100000 in
theorem and127_u64 (z : Nat) (h : z < 18446744073709551616) : bits BinOp.and IntKind.u64 (z : Int) 127 = ((z % 128 : Nat) : Int) := by
  have := u64_and_nat z 127 h (by omega)
  have e : z &&& 127 = z % 128 := Nat.and_two_pow_sub_one_eq_mod z 7
  rw [e] at this; exact this
set_option maxRecDepth 100000 in
theorem byte_more (z : Nat) (h : z < 18446744073709551616) :
    bits BinOp.or IntKind.u8 (bits BinOp.and IntKind.u64 (z : Int) 127 % 256) 128 = ((UInt8.ofNat (z % 128 + 128)).toNat : Int) := by
  rw [and127_u64 z h]
  have e : ((z % 128 : Nat) : Int) % 256 = ((z % 128 : Nat) : Int) := by omega
  rw [e, u8_or128_right _ (by omega) (by omega)]
  simp; omega

/-- The number that stands at place k of l, read from its byte number i on, z being what was read ahead of it; the place behind it. -/
def tn (l : List UInt8) : Nat → Nat → Nat → Nat → Option (Int × Nat)
  | 0, _, _, _ => none
  | f + 1, i, k, z => match l[k]? with
    | none => none
    | some c => if i = 9 ∧ 1 < c.toNat then none else if 0 < i ∧ c.toNat = 0 then none else
        if c.toNat < 128 then some (uz (z + c.toNat % 128 * 128 ^ i), k + 1) else tn l f (i + 1) (k + 1) (z + c.toNat % 128 * 128 ^ i)
def tnum (l : List UInt8) (k : Nat) : Option (Int × Nat) := tn l 10 0 k 0

set_option maxRecDepth 100000 in
theorem tn_end (l : List UInt8) (f i k z : Nat) (h : l[k]? = none) : tn l (f + 1) i k z = none := by simp [tn, h]
set_option maxRecDepth 100000 in
theorem tn_nine (l : List UInt8) (f k z : Nat) (c : UInt8) (h : l[k]? = some c) (h1 : 1 < c.toNat) : tn l (f + 1) 9 k z = none := by simp [tn, h, h1]
set_option maxRecDepth 100000 in
theorem tn_zero (l : List UInt8) (f i k z : Nat) (c : UInt8) (h : l[k]? = some c) (h1 : 0 < i) (h2 : c.toNat = 0) : tn l (f + 1) i k z = none := by
  simp only [tn, h]; rw [if_neg (by omega), if_pos ⟨h1, h2⟩]
set_option maxRecDepth 100000 in
theorem tn_last (l : List UInt8) (f i k z : Nat) (c : UInt8) (h : l[k]? = some c) (h1 : ¬ (i = 9 ∧ 1 < c.toNat)) (h2 : ¬ (0 < i ∧ c.toNat = 0)) (h3 : c.toNat < 128) :
    tn l (f + 1) i k z = some (uz (z + c.toNat % 128 * 128 ^ i), k + 1) := by
  simp only [tn, h]; rw [if_neg h1, if_neg h2, if_pos h3]
set_option maxRecDepth 100000 in
theorem tn_more (l : List UInt8) (f i k z : Nat) (c : UInt8) (h : l[k]? = some c) (h1 : ¬ (i = 9 ∧ 1 < c.toNat)) (h2 : ¬ (0 < i ∧ c.toNat = 0)) (h3 : ¬ c.toNat < 128) :
    tn l (f + 1) i k z = tn l f (i + 1) (k + 1) (z + c.toNat % 128 * 128 ^ i) := by
  simp only [tn, h]; rw [if_neg h1, if_neg h2, if_neg h3]

set_option maxRecDepth 100000 in
theorem pow_le9 (i : Nat) (h : i ≤ 8) : 128 ^ i ≤ 72057594037927936 := by
  have := Nat.pow_le_pow_right (n := 128) (by omega) h
  have e : 128 ^ 8 = 72057594037927936 := by decide
  omega
set_option maxRecDepth 100000 in
theorem step_lt (z i c : Nat) (hz : z < 128 ^ i) (hi : i ≤ 9) (h9 : i = 9 → c ≤ 1) : z + c % 128 * 128 ^ i < 18446744073709551616 ∧ c % 128 * 128 ^ i < 18446744073709551616 := by
  have hm : c % 128 < 128 := Nat.mod_lt _ (by omega)
  by_cases h : i = 9
  · subst h
    have h1 := h9 rfl
    have e : (128 : Nat) ^ 9 = 9223372036854775808 := by decide
    rw [e] at hz ⊢
    have : c % 128 ≤ 1 := by omega
    have : c % 128 * 9223372036854775808 ≤ 1 * 9223372036854775808 := Nat.mul_le_mul_right _ this
    omega
  · have hp := pow_le9 i (by omega)
    have : c % 128 * 128 ^ i ≤ 127 * 128 ^ i := Nat.mul_le_mul_right _ (by omega)
    omega
set_option maxRecDepth 100000 in
theorem step_pow (z i c : Nat) (hz : z < 128 ^ i) : z + c % 128 * 128 ^ i < 128 ^ (i + 1) := by
  have hm : c % 128 < 128 := Nat.mod_lt _ (by omega)
  have : c % 128 * 128 ^ i ≤ 127 * 128 ^ i := Nat.mul_le_mul_right _ (by omega)
  rw [Nat.pow_succ]; omega
set_option maxRecDepth 100000 in
theorem or_step (z i c : Nat) (hz : z < 128 ^ i) (hi : i ≤ 9) (h9 : i = 9 → c ≤ 1) :
    bits BinOp.or IntKind.u64 (z : Int) (IntKind.u64.wrap (IntKind.u64.wrap (bits BinOp.and IntKind.i64 (c : Int) 127) * 2 ^ (7 * i))) = ((z + c % 128 * 128 ^ i : Nat) : Int) := by
  have hs := step_lt z i c hz hi h9
  have hp : (2 : Int) ^ (7 * i) = ((128 ^ i : Nat) : Int) := by
    rw [Int.pow_mul]; simp
  rw [i64_and127]
  simp only [IntKind.wrap_u64]
  have e1 : ((c : Int) % 128) % 18446744073709551616 = ((c % 128 : Nat) : Int) := by omega
  rw [e1, hp, ← Int.natCast_mul]
  have e2 : ((c % 128 * 128 ^ i : Nat) : Int) % 18446744073709551616 = ((c % 128 * 128 ^ i : Nat) : Int) := by omega
  rw [e2, u64_or_nat _ _ (by omega) hs.2]
  have e3 : (128 : Nat) ^ i = 2 ^ (7 * i) := by rw [Nat.pow_mul]
  rw [e3] at hz ⊢
  have := Nat.two_pow_add_eq_or_of_lt hz (c % 128)
  rw [Nat.or_comm, Nat.mul_comm (c % 128), ← this, Nat.add_comm]

set_option maxRecDepth 100000 in
theorem or_step9 (z c : Nat) (hz : z < 128 ^ 9) (h9 : c ≤ 1) :
    bits BinOp.or IntKind.u64 (z : Int) (IntKind.u64.wrap (IntKind.u64.wrap (bits BinOp.and IntKind.i64 (c : Int) 127) * 9223372036854775808)) = ((z + c % 128 * 128 ^ 9 : Nat) : Int) := by
  have h := or_step z 9 c hz (by omega) (fun _ => h9)
  have e : (2 : Int) ^ (7 * 9) = 9223372036854775808 := by decide
  rw [e] at h; exact h
set_option maxRecDepth 100000 in
theorem or_step0 (z c : Nat) (hz : z < 128 ^ 0) :
    bits BinOp.or IntKind.u64 (z : Int) (IntKind.u64.wrap (IntKind.u64.wrap (bits BinOp.and IntKind.i64 (c : Int) 127))) = ((z + c % 128 * 128 ^ 0 : Nat) : Int) := by
  have h := or_step z 0 c hz (by omega) (by omega)
  have e : (2 : Int) ^ (7 * 0) = 1 := by decide
  rw [e, Int.mul_one] at h; exact h

set_option maxRecDepth 100000 in
theorem tn_place (l : List UInt8) (f i k z : Nat) (n : Int) (k' : Nat) (h : tn l f i k z = some (n, k')) : k < k' ∧ k' ≤ k + f ∧ k' ≤ l.length := by
  induction f generalizing i k z with
  | zero => simp [tn] at h
  | succ f ih =>
    cases hl : l[k]? with
    | none => rw [tn_end l f i k z hl] at h; cases h
    | some c =>
      have hk : k < l.length := by
        rcases Nat.lt_or_ge k l.length with h1 | h1
        · exact h1
        · rw [List.getElem?_eq_none h1] at hl; cases hl
      simp only [tn, hl] at h
      split at h
      · cases h
      · split at h
        · cases h
        · split at h
          · simp at h; omega
          · have := ih (i + 1) (k + 1) _ h; omega
set_option maxRecDepth 100000 in
theorem tn_bound (l : List UInt8) (f i k z : Nat) (n : Int) (k' : Nat) (h : tn l f i k z = some (n, k')) (hi : i + f = 10) (hz : z < 128 ^ i) : -9223372036854775808 ≤ n ∧ n ≤ 9223372036854775807 := by
  induction f generalizing i k z with
  | zero => simp [tn] at h
  | succ f ih =>
    cases hl : l[k]? with
    | none => rw [tn_end l f i k z hl] at h; cases h
    | some c =>
      simp only [tn, hl] at h
      split at h
      · cases h
      · rename_i h1
        split at h
        · cases h
        · split at h
          · have := (step_lt z i c.toNat hz (by omega) (by omega)).1
            simp at h
            rw [← h.1]; unfold uz; split <;> omega
          · exact ih (i + 1) (k + 1) _ h (by omega) (step_pow _ _ _ hz)
set_option maxRecDepth 100000 in
theorem tnum_place {l : List UInt8} {k : Nat} {n : Int} {k' : Nat} (h : tnum l k = some (n, k')) : k < k' ∧ k' ≤ k + 10 ∧ k' ≤ l.length := tn_place _ _ _ _ _ _ _ h
set_option maxRecDepth 100000 in
theorem tnum_bound {l : List UInt8} {k : Nat} {n : Int} {k' : Nat} (h : tnum l k = some (n, k')) : -9223372036854775808 ≤ n ∧ n ≤ 9223372036854775807 := tn_bound _ _ _ _ _ _ _ h rfl (by decide)

set_option maxRecDepth 100000 in
theorem byte_at (s : ByteArray) (k : Nat) (h : k < s.size) : s.data.toList[k]? = some s[k] := by
  rw [List.getElem?_eq_getElem (by simpa using h)]; rfl
set_option maxRecDepth 100000 in
theorem byte_past (s : ByteArray) (k : Nat) (h : s.size ≤ k) : s.data.toList[k]? = none := List.getElem?_eq_none (by simpa using h)

end Go.Proofs.YtfnpeiikjiffeaaGreat.Wi

/- What a Writer and a Reader are in memory, and what a step of writing leaves. No walk is in this text. -/
namespace Go.Proofs.YtfnpeiikjiffeaaGreat.Wi
open Go.RowKit

/-- The world w' is as w was but for the blocks of S and new ones. -/
structure Fr (S : List Nat) (w w' : World) : Prop where
  os : w'.os = w.os
  tape : w'.tape = w.tape
  output : w'.output = w.output
  size : w.heap.size ≤ w'.heap.size
  block : ∀ k, k < w.heap.size → k ∉ S → w'.heap[k]? = w.heap[k]?

set_option maxRecDepth 100000 in
theorem Fr.refl (S : List Nat) (w : World) : Fr S w w := ⟨rfl, rfl, rfl, Nat.le_refl _, fun _ _ _ => rfl⟩
set_option maxRecDepth 100000 in
theorem Fr.trans {S S' T : List Nat} {w w1 w2 : World} (h : Fr S w w1) (k : Fr S' w1 w2) (h1 : ∀ x, x < w.heap.size → x ∈ S → x ∈ T) (h2 : ∀ x, x < w.heap.size → x ∈ S' → x ∈ T) : Fr T w w2 :=
  ⟨k.os.trans h.os, k.tape.trans h.tape, k.output.trans h.output, Nat.le_trans h.size k.size,
   fun x hx hn => (k.block x (Nat.lt_of_lt_of_le hx h.size) (fun c => hn (h2 x hx c))).trans (h.block x hx (fun c => hn (h1 x hx c)))⟩
set_option maxRecDepth 100000 in
theorem Fr.mono {S T : List Nat} {w w1 : World} (h : Fr S w w1) (h1 : ∀ x, x < w.heap.size → x ∈ S → x ∈ T) : Fr T w w1 :=
  ⟨h.os, h.tape, h.output, h.size, fun x hx hn => h.block x hx (fun c => hn (h1 x hx c))⟩
set_option maxRecDepth 100000 in
theorem Fr.tr {S : List Nat} {w w1 w2 : World} (h : Fr S w w1) (k : Fr S w1 w2) : Fr S w w2 := h.trans k (fun _ _ c => c) (fun _ _ c => c)
set_option maxRecDepth 100000 in
theorem Fr.alloc {S : List Nat} {w w1 : World} (h : Fr S w w1) (o : Obj) : Fr S w (w1.alloc o) :=
  h.tr ⟨rfl, rfl, rfl, by simp, fun k hk _ => Below.heap_alloc _ _ _ hk⟩
set_option maxRecDepth 100000 in
theorem Fr.setCell {S : List Nat} {w w1 : World} (h : Fr S w w1) {a : Addr} (ha : w.heap.size ≤ a.block ∨ a.block ∈ S) (u : Value) : Fr S w (w1.setCell a u) :=
  h.trans (S' := [a.block]) ⟨rfl, rfl, rfl, by simp [World.setCell], fun k _ hn => Below.heap_setCell _ _ _ _ (by simpa using hn)⟩ (fun _ _ c => c)
    (fun x hx c => by simp at c; subst c; rcases ha with h | h; omega; exact h)
set_option maxRecDepth 100000 in
theorem Fr.drew {S : List Nat} {w w1 : World} (h : Fr S w w1) : Fr S w w1.drew := ⟨h.os, h.tape, h.output, h.size, h.block⟩
set_option maxRecDepth 100000 in
theorem Fr.drewN {S : List Nat} {w w1 : World} (h : Fr S w w1) (n : Nat) : Fr S w (w1.drewN n) := by
  have hb : Below w1.heap.size w1 (w1.drewN n) := below_drewN (Below.refl _ _) n
  exact h.tr ⟨hb.os, hb.tape, hb.output, hb.size, fun k hk _ => hb.block k hk⟩
set_option maxRecDepth 100000 in
theorem Fr.below {S : List Nat} {w w1 w2 : World} (h : Fr S w w1) (hb : Below w1.heap.size w1 w2) : Fr S w w2 :=
  h.tr ⟨hb.os, hb.tape, hb.output, hb.size, fun k hk _ => hb.block k hk⟩
set_option maxRecDepth 100000 in
theorem Fr.toBelow {w w' : World} (h : Fr [] w w') : Below w.heap.size w w' := ⟨h.os, h.tape, h.output, h.size, fun k hk => h.block k hk (by simp)⟩
set_option maxRecDepth 100000 in
theorem Fr.ofGrown {w w' : World} {row : Option Nat} (hg : w.grownBy w' row) : Fr row.toList w w' :=
  ⟨hg.os, hg.tape, hg.output, hg.size, fun k hk hn => hg.block k hk (fun c => hn (by rw [← c]; simp))⟩

def B8 (c : UInt8) : Value := .int .u8 c.toNat

/-- A Writer that was made, at block b, with the slice sv, in which stand the bytes bs. -/
structure WR (w : World) (b : Nat) (sv : Value) (bs : List UInt8) : Prop where
  blk : w.heap[b]? = some (.cells #[.bool true, sv] 94 (0, 0))
  own : w.ownsRow 0 5 1 sv bs.length (bs.map B8)

/-- What a step of writing leaves. -/
structure WStep (w w' : World) (b : Nat) (sv sv' : Value) (bs' : List UInt8) : Prop where
  wr : WR w' b sv' bs'
  fr : Fr (b :: sv.ownBlock.toList) w w'
  place : ∀ k, sv'.ownBlock = some k → sv.ownBlock = some k ∨ w.heap.size ≤ k

set_option maxRecDepth 100000 in
theorem lt_of_blk {w : World} {b : Nat} {o : Obj} (h : w.heap[b]? = some o) : b < w.heap.size := by
  rcases Nat.lt_or_ge b w.heap.size with h1 | h1
  · exact h1
  · rw [Array.getElem?_eq_none h1] at h; cases h

set_option maxRecDepth 100000 in
theorem own_row {w : World} {e : TypeId} {v : Value} {n : Nat} {xs : List Value} {k : Nat} (h : w.ownsRow 0 e 1 v n xs) (hk : v.ownBlock = some k) : ∃ cur, w.heap[k]? = some (.cells cur e (0, 0)) := by
  rcases h.2 with ⟨rfl, _⟩ | ⟨g, cap, cur, rfl, _, hg, _⟩
  · cases hk
  · simp [Value.ownBlock] at hk; subst hk; exact ⟨cur, hg⟩

set_option maxRecDepth 100000 in
theorem WR.ne {w : World} {b : Nat} {sv : Value} {bs : List UInt8} (h : WR w b sv bs) : sv.ownBlock ≠ some b := by
  intro c
  obtain ⟨cur, hc⟩ := own_row h.own c
  rw [h.blk] at hc; simp at hc

set_option maxRecDepth 100000 in
theorem ownsRow_of_blocks {w w' : World} {e : TypeId} {v : Value} {n : Nat} {xs : List Value} (h : w.ownsRow 0 e 1 v n xs) (hb : ∀ k, v.ownBlock = some k → w'.heap[k]? = w.heap[k]?) : w'.ownsRow 0 e 1 v n xs := by
  refine ⟨h.1, ?_⟩
  rcases h.2 with h2 | ⟨g, cap, cur, rfl, h0, hg, r⟩
  · exact Or.inl h2
  · exact Or.inr ⟨g, cap, cur, rfl, h0, by rw [hb g rfl]; exact hg, r⟩

set_option maxRecDepth 100000 in
/-- A Writer stays what it is while others' blocks are written. -/
theorem WR.keep {w w' : World} {b : Nat} {sv : Value} {bs : List UInt8} {S : List Nat} (h : WR w b sv bs) (hf : Fr S w w') (hb : b ∉ S) (hs : ∀ k, sv.ownBlock = some k → k ∉ S) : WR w' b sv bs :=
  ⟨by rw [hf.block b (lt_of_blk h.blk) hb]; exact h.blk,
   ownsRow_of_blocks h.own fun k hk => hf.block k (by obtain ⟨c, hc⟩ := own_row h.own hk; exact lt_of_blk hc) (hs k hk)⟩

set_option maxRecDepth 100000 in
theorem WStep.refl {w : World} {b : Nat} {sv : Value} {bs : List UInt8} (h : WR w b sv bs) : WStep w w b sv sv bs := ⟨h, Fr.refl _ _, fun _ hk => Or.inl hk⟩
set_option maxRecDepth 100000 in
theorem WStep.trans {w w1 w2 : World} {b : Nat} {sv sv1 sv2 : Value} {bs1 bs2 : List UInt8} (h : WStep w w1 b sv sv1 bs1) (k : WStep w1 w2 b sv1 sv2 bs2) : WStep w w2 b sv sv2 bs2 := by
  refine ⟨k.wr, h.fr.trans k.fr (fun _ _ c => c) (fun x hx c => ?_), fun x hx => ?_⟩
  · simp only [List.mem_cons, Option.mem_toList] at c ⊢
    rcases c with c | c
    · exact Or.inl c
    · rcases h.place x c with c | c
      · exact Or.inr c
      · omega
  · rcases k.place x hx with c | c
    · exact h.place x c
    · exact Or.inr (Nat.le_trans h.fr.size c)
set_option maxRecDepth 100000 in
/-- Steps ahead of which, and behind which, only new blocks are made. -/
theorem WStep.before {w w0 w1 : World} {b : Nat} {sv sv1 : Value} {bs1 : List UInt8} (h : Fr [] w w0) (k : WStep w0 w1 b sv sv1 bs1) : WStep w w1 b sv sv1 bs1 :=
  ⟨k.wr, h.trans k.fr (fun _ _ c => by cases c) (fun _ _ c => c), fun x hx => (k.place x hx).imp id (fun c => Nat.le_trans h.size c)⟩
set_option maxRecDepth 100000 in
theorem WR.new {w w' : World} {b : Nat} {sv : Value} {bs : List UInt8} (h : WR w b sv bs) (hf : Fr [] w w') : WR w' b sv bs := h.keep hf (by simp) (by simp)

set_option maxRecDepth 100000 in
theorem cell0_of_WR {w : World} {b : Nat} {sv : Value} {bs : List UInt8} (h : WR w b sv bs) : w.cell? ⟨b, 0, none⟩ = some (.bool true) := by simp [World.cell?, h.blk]
set_option maxRecDepth 100000 in
theorem cell1_of_WR {w : World} {b : Nat} {sv : Value} {bs : List UInt8} (h : WR w b sv bs) : w.cell? ⟨b, 1, none⟩ = some sv := by simp [World.cell?, h.blk]
set_option maxRecDepth 100000 in
theorem froz1_of_WR {w : World} {b : Nat} {sv : Value} {bs : List UInt8} (h : WR w b sv bs) : w.frozen? ⟨b, 1, none⟩ = false := by simp [World.frozen?, h.blk]

set_option maxRecDepth 100000 in
/-- The store of the new slice, behind an append. -/
theorem WR.stored {w w0 w1 : World} {b : Nat} {sv sv' : Value} {bs bs' : List UInt8} (h : WR w b sv bs) (h0 : Fr [] w w0) (hown : w1.ownsRow 0 5 1 sv' bs'.length (bs'.map B8)) (hg : w0.grownBy w1 sv.ownBlock)
    (hp : ∀ k, sv'.ownBlock = some k → sv.ownBlock = some k ∨ w0.heap.size ≤ k) :
    WStep w (w1.setCell ⟨b, 1, none⟩ sv') b sv sv' bs' ∧ w1.cell? ⟨b, 1, none⟩ = some sv ∧ w1.frozen? ⟨b, 1, none⟩ = false := by
  have hw0 := h.new h0
  have hb1 : w1.heap[b]? = some (.cells #[.bool true, sv] 94 (0, 0)) := by
    rw [hg.block b (lt_of_blk hw0.blk) (fun c => hw0.ne c.symm)]; exact hw0.blk
  have hne : sv'.ownBlock ≠ some b := by
    intro c
    obtain ⟨cur, hc⟩ := own_row hown c
    rw [hb1] at hc; simp at hc
  refine ⟨⟨⟨?_, ?_⟩, ?_, fun k hk => (hp k hk).imp id (fun c => Nat.le_trans h0.size c)⟩, by simp [World.cell?, hb1], by simp [World.frozen?, hb1]⟩
  · simp [World.setCell, Array.getElem?_modify, hb1]
  · exact ownsRow_of_blocks hown fun k hk => Below.heap_setCell _ _ _ _ (fun c => hne (by rw [hk, c]))
  · exact ((h0.trans (T := b :: sv.ownBlock.toList) (Fr.ofGrown hg) (fun _ _ c => by cases c) (fun x _ c => by simp at c ⊢; exact Or.inr c))).setCell (Or.inr (by simp)) _

set_option maxRecDepth 100000 in
/-- Behind the append of one byte: the slice's shape, and what the store leaves. -/
theorem WR.stored1 {w w1 : World} {b : Nat} {sv sv' x : Value} {bs : List UInt8} {o : Obj} (c : UInt8) (h : WR w b sv bs) (hown : w1.ownsRow 0 5 1 sv' (bs.length + 1) (bs.map B8 ++ [x])) (hx : x = B8 c)
    (hg : (w.alloc o).grownBy w1 sv.ownBlock) (hat : sv'.ownBlock = sv.ownBlock ∨ sv'.ownBlock = some (w.heap.size + 1)) :
    (∃ g cap, sv' = .slice (some ⟨g, 0, none⟩) (bs.length + 1) cap) ∧ WStep w (w1.setCell ⟨b, 1, none⟩ sv') b sv sv' (bs ++ [c]) ∧ w1.cell? ⟨b, 1, none⟩ = some sv ∧ w1.frozen? ⟨b, 1, none⟩ = false := by
  refine ⟨?_, h.stored ((Fr.refl [] w).alloc o) (by subst hx; simpa using hown) hg ?_⟩
  · rcases hown.2 with ⟨_, h⟩ | ⟨g, cap, _, h, _⟩
    · omega
    · exact ⟨g, cap, h⟩
  · intro k hk
    rcases hat with h | h
    · exact Or.inl (h ▸ hk)
    · rw [h] at hk; cases hk; exact Or.inr (by simp)

set_option maxRecDepth 100000 in
theorem append_string_place {P : Program} (w : World) (t u ty e : TypeId) (i : TypeInfo) (ht : P.underlying t = some (.slice e)) (hu : P.underlying u = some .string) (hi : P.info? e = some i) (hz : i.zero = some (.int .u8 0))
    (hsize : i.size = 1) (hby : i.bytes = 1) (v : Value) (n : Nat) (xs : List Value) (hown : w.ownsRow 0 e 1 v n xs) (s : ByteArray) (hbytes : n + s.size ≤ 140737488355328) :
    ∃ v' w', (Builtin.append_ #[t, u] ty #[v, .string s]).run P w = .ok v' w' ∧ w'.ownsRow 0 e 1 v' (n + s.size) (xs ++ Lib.strCells s) ∧ w.grownBy w' v.ownBlock ∧ (∀ k, v'.ownBlock = some k → v.ownBlock = some k ∨ w.heap.size ≤ k) := by
  obtain ⟨v', w', hr, h2, h3, h4⟩ := Lib.run_append_own_string (P := P) w 0 t u ty e i ht hu hi hz hsize hby v n xs hown s (by unfold maxLen; omega) hbytes (Nat.zero_le _)
  refine ⟨v', w', hr, h2, h3, ?_⟩
  rcases hown.2 with ⟨rfl, rfl⟩ | ⟨g, cap, cur, rfl, hbg, hg, hnc, hcm, hcs, htake⟩
  · obtain ⟨v2, w2, hr2, k2, _, _⟩ := Lib.run_append_own_string (P := P) w w.heap.size t u ty e i ht hu hi hz hsize hby (.slice none 0 0) 0 xs ⟨hown.1, Or.inl ⟨rfl, rfl⟩⟩ s (by unfold maxLen; omega) hbytes (Nat.le_refl _)
    rw [hr] at hr2; cases hr2
    intro k hk
    exact Or.inr (k2.lt k hk).1
  · by_cases hroom : n + s.size ≤ cap
    · have hr2 := Lib.run_append_room_string (P := P) w t u ty e i ht hu hi hsize g n cap cur hg s hroom (by omega)
      rw [hr] at hr2; cases hr2
      intro k hk; exact Or.inl hk
    · have hr2 := Lib.run_append_grow_string (P := P) w t u ty e i (.int .u8 0) ht hu hi hz ⟨g, 0, none⟩ n cap xs (by rw [hsize]; exact hown.1) (hown.cells (g := g) rfl) s (by omega) (by omega) (by rw [hby]; exact growslice_fits (by omega) (by omega))
      rw [hr] at hr2; cases hr2
      intro k hk; simp [Value.ownBlock] at hk; exact Or.inr (by omega)

set_option maxRecDepth 100000 in
theorem wpList_append_string_place {P : Program} (w : World) {ops : Array Oper} {rest : List Oper} {o : Oper} {a : Act} {Q : Exit → Act → World → Prop} (hgd : o.guard = none) (sl x : Operand) (t u : TypeId)
    (ho : o.op = .call { callee := .builtin .append, args := #[sl, x], argTypes := #[t, u] })
    (e : TypeId) (i : TypeInfo) (ht : P.underlying t = some (.slice e)) (hu : P.underlying u = some .string) (hi : P.info? e = some i) (hz : i.zero = some (.int .u8 0))
    (hsize : i.size = 1) (hby : i.bytes = 1)
    (v : Value) (n : Nat) (xs : List Value) (hs : a.eval sl = v) (hown : w.ownsRow 0 e 1 v n xs) (s : ByteArray) (hx : a.eval x = .string s) (hbytes : n + s.size ≤ 140737488355328)
    (h : ∀ v' w', w'.ownsRow 0 e 1 v' (n + s.size) (xs ++ Lib.strCells s) → w.grownBy w' v.ownBlock → (∀ k, v'.ownBlock = some k → v.ownBlock = some k ∨ w.heap.size ≤ k) → wpList P ops Q rest (a.put o.dst v') w') : wpList P ops Q (o :: rest) a w := by
  refine wpList_plain hgd fun K hK => ?_
  obtain ⟨v', w', hr, h2, h3, h4⟩ := append_string_place (P := P) w t u o.type e i ht hu hi hz hsize hby v n xs hown s hbytes
  unfold Oper.wp execOp
  simp only [ho, resolve, invoke, builtin, Sem.run_bind, Sem.run_pure, Result.andThen_ok, List.map_toArray, List.map_cons, List.map_nil, hs, hx, hr]
  exact hK _ _ (h v' w' h2 h3 h4)

set_option maxRecDepth 100000 in
theorem Tryz.infoU8 : (Tryz.prog.info? 5).map (fun i => (i.zero, i.size, i.bytes)) = some (some (.int .u8 0), 1, 1) := by kernel_rfl

end Go.Proofs.YtfnpeiikjiffeaaGreat.Wi

/- Contracts of the Writer's smallest functions: fold, unfold, missing, put. -/
namespace Go.Proofs.YtfnpeiikjiffeaaGreat.Wi
open Go.RowKit

set_option maxRecDepth 100000 in
theorem ret_int {k : IntKind} {a b : Int} (h : a = b) : Ending.returned (.int k a) = .returned (.int k b) := by rw [h]

def lim : Nat → Nat
  | 0 => 128
  | f + 1 => 128 * lim f
set_option maxRecDepth 100000 in
theorem lim_step (f z : Nat) (h : z < lim f) (hz : ¬ z < 128) : ∃ g, f = g + 1 ∧ z / 128 < lim g := by
  cases f with
  | zero => exact absurd h hz
  | succ g => exact ⟨g, rfl, Nat.div_lt_of_lt_mul h⟩
set_option maxRecDepth 100000 in
theorem lim9 (z : Nat) (h : z < 18446744073709551616) : z < lim 9 := by
  have e : lim 9 = 1180591620717411303424 := by decide
  omega

set_option maxHeartbeats 400000 in
set_option maxRecDepth 100000 in
theorem fold_any (n : Int) (w : World) (h1 : -9223372036854775808 ≤ n) (h2 : n ≤ 9223372036854775807) :
    Calls Tryz.prog 74 #[.int .i64 n] w fun e w' => e = .returned (.int .u64 (zz n)) ∧ w' = w := by
  go_enter Tryz.func74, Tryz.ntmps74
  go_wp2
  go_ret
  exact ⟨ret_int (fold_eq n h1 h2), rfl⟩

set_option maxHeartbeats 400000 in
set_option maxRecDepth 100000 in
theorem unfold_any (z : Nat) (w : World) (h : z < 18446744073709551616) :
    Calls Tryz.prog 113 #[.int .u64 z] w fun e w' => e = .returned (.int .i64 (uz z)) ∧ w' = w := by
  go_enter Tryz.func113, Tryz.ntmps113
  go_wp2
  go_ret
  exact ⟨ret_int (unfold_eq z h), rfl⟩

set_option maxRecDepth 100000 in
theorem wmiss_nil (w : World) : Calls Tryz.prog 51 #[.pointer none] w fun e w' => e = .returned (.bool true) ∧ w' = w := by
  go_enter Tryz.func51, Tryz.ntmps51
  go_wp2
  go_ret
  exact ⟨rfl, rfl⟩
set_option maxRecDepth 100000 in
theorem wmiss_at (w : World) (b : Nat) (m : Bool) (c0 : w.cell? ⟨b, 0, none⟩ = some (.bool m)) :
    Calls Tryz.prog 51 #[.pointer (some ⟨b, 0, none⟩)] w fun e w' => e = .returned (.bool (!m)) ∧ w' = w := by
  go_enter Tryz.func51, Tryz.ntmps51
  go_wp2
  go_ret
  exact ⟨rfl, rfl⟩

set_option maxHeartbeats 400000 in
set_option maxRecDepth 100000 in
theorem put_any (b : Nat) (n : Int) (sv : Value) (bs : List UInt8) (w : World) (h1 : -9223372036854775808 ≤ n) (h2 : n ≤ 9223372036854775807) (hw : WR w b sv bs) (hl : bs.length ≤ 1099511627776) :
    Calls Tryz.prog 52 #[.pointer (some ⟨b, 0, none⟩), .int .i64 n] w fun e w' => e = .returned (.tuple #[]) ∧ ∃ sv', WStep w w' b sv sv' (bs ++ enc n) := by
  obtain ⟨i0, hi, hz0, hz1, hz2⟩ := info_parts Tryz.infoU8
  have hzl := zz_lt n h1 h2
  go_enter Tryz.func52, Tryz.ntmps52
  go_wp2_with (go_at_call 74; refine (fold_any _ _ h1 h2).mono ?_; rintro e w ⟨rfl, rfl⟩)
  go_loopw [4] (fun zv wr => ∃ (z f : Nat) (cur : List UInt8) (sv1 : Value), f ≤ 9 ∧ z < lim f ∧ z < 18446744073709551616 ∧ zv = .int .u64 z ∧ cur.length + f ≤ bs.length + 9 ∧ Hid (cur ++ vbF f z = bs ++ enc n) ∧ WStep w wr b sv sv1 cur) (fun zv _ => (intOf zv).toNat)
  case atStart => exact ⟨zz n, 9, bs, sv, by omega, lim9 _ hzl, hzl, rfl, by omega, by simp [Hid, enc, vb], WStep.refl hw⟩
  case round =>
    obtain ⟨z, f, cur, sv1, hf, hzf, hzb, rfl, hlen, hdn, hst⟩ := hrel
    have c1 := cell1_of_WR hst.wr
    have f1 := froz1_of_WR hst.wr
    have hown := hst.wr.own
    by_cases hz : z < 128
    · go_wp2_with (at_builtin; refine wpList_append_own_at _ rfl (.tmp 28) (.tmp 31) 59 rfl 0 5 i0 (.int .u8 0) 1 1 Tryz.underlying59 hi hz0 hz1 hz2 rfl (by decide) sv1 cur.length _ rfl (hown.alloc _) ⟨wr.heap.size, 0, none⟩ 1 1 [_] rfl rfl (cell_one_new _ _ _) ?c2 ?c3 ?c4 ?c5 ?nx)
      case c2 => intro u hu; simp at hu; subst hu; rfl
      case c3 => unfold maxLen; omega
      case c4 => omega
      case c5 => omega
      case nx =>
        intro v' w1 hown' hgrow _ hat
        obtain ⟨⟨g, cap, rfl⟩, R1, R2, R3⟩ := hst.wr.stored1 (UInt8.ofNat z) hown' (by simp [B8]; omega) hgrow hat
        clear hown' hgrow hat
        go_wp2
        go_end0
        have R4 := hst.trans R1
        have e4 : cur ++ [UInt8.ofNat z] = bs ++ enc n := by rw [← hdn.out, vbF_small f z hz]
        rw [e4] at R4
        exact ⟨rfl, _, R4⟩
    · go_wp2_with (at_builtin; refine wpList_append_own_at _ rfl (.tmp 13) (.tmp 18) 59 rfl 0 5 i0 (.int .u8 0) 1 1 Tryz.underlying59 hi hz0 hz1 hz2 rfl (by decide) sv1 cur.length _ rfl (hown.alloc _) ⟨wr.heap.size, 0, none⟩ 1 1 [_] rfl rfl (cell_one_new _ _ _) ?d2 ?d3 ?d4 ?d5 ?ny)
      case d2 => intro u hu; simp at hu; subst hu; rfl
      case d3 => unfold maxLen; omega
      case d4 => omega
      case d5 => omega
      case ny =>
        intro v' w1 hown' hgrow _ hat
        obtain ⟨⟨g, cap, rfl⟩, R1, R2, R3⟩ := hst.wr.stored1 (UInt8.ofNat (z % 128 + 128)) hown' (by rw [B8, byte_more z hzb]) hgrow hat
        obtain ⟨f', rfl, hz'⟩ := lim_step f z hzf hz
        have R4 := hst.trans R1
        clear hown' hgrow hat
        go_wp2
        go_roundw
        case rel => exact ⟨z / 128, f', cur ++ [UInt8.ofNat (z % 128 + 128)], _, by omega, hz', by omega, by go_num, by simp; omega, by unfold Hid; rw [← hdn.out, vbF_big f' z hz]; simp, R4⟩
        case measure => simp [intOf]; omega

end Go.Proofs.YtfnpeiikjiffeaaGreat.Wi

/- Contracts of the Writer's methods, of one that was made. -/
namespace Go.Proofs.YtfnpeiikjiffeaaGreat.Wi
open Go.RowKit

def str (bs : List UInt8) : ByteArray := ⟨bs.toArray⟩

set_option maxHeartbeats 400000 in
set_option maxRecDepth 100000 in
theorem wByte_bad (b : Nat) (n : Int) (sv : Value) (bs : List UInt8) (w : World) (h : n < 0 ∨ 255 < n) (hw : WR w b sv bs) :
    Calls Tryz.prog 117 #[.pointer (some ⟨b, 0, none⟩), .int .i64 n] w fun e w' => e = .returned (.int .i64 1) ∧ w' = w := by
  have c0 := cell0_of_WR hw
  rcases h with h | h
  · go_enter Tryz.func117, Tryz.ntmps117
    go_wp2_with (go_at_call 51; refine (wmiss_at _ _ _ c0).mono ?_; rintro e w ⟨rfl, rfl⟩)
    go_ret
    exact ⟨rfl, rfl⟩
  · have h' : ¬ n < 0 := by omega
    go_enter Tryz.func117, Tryz.ntmps117
    go_wp2_with (go_at_call 51; refine (wmiss_at _ _ _ c0).mono ?_; rintro e w ⟨rfl, rfl⟩)
    go_ret
    exact ⟨rfl, rfl⟩

set_option maxHeartbeats 400000 in
set_option maxRecDepth 100000 in
theorem wByte_ok (b : Nat) (n : Int) (sv : Value) (bs : List UInt8) (w : World) (h0 : 0 ≤ n) (h255 : n ≤ 255) (hw : WR w b sv bs) (hl : bs.length ≤ 1099511627776) :
    Calls Tryz.prog 117 #[.pointer (some ⟨b, 0, none⟩), .int .i64 n] w fun e w' => e = .returned (.int .i64 0) ∧ ∃ sv', WStep w w' b sv sv' (bs ++ [UInt8.ofNat n.toNat]) := by
  have c0 := cell0_of_WR hw
  have c1 := cell1_of_WR hw
  have f1 := froz1_of_WR hw
  have hown := hw.own
  obtain ⟨i0, hi, hz0, hz1, hz2⟩ := info_parts Tryz.infoU8
  go_enter Tryz.func117, Tryz.ntmps117
  go_wp2_with (first | (go_at_call 51; refine (wmiss_at _ _ _ c0).mono ?_; rintro e w ⟨rfl, rfl⟩) | (at_builtin; refine wpList_append_own_at _ rfl (.tmp 17) (.tmp 20) 59 rfl 0 5 i0 (.int .u8 0) 1 1 Tryz.underlying59 hi hz0 hz1 hz2 rfl (by decide) sv bs.length _ rfl (hown.alloc _) ⟨w.heap.size, 0, none⟩ 1 1 [_] rfl rfl (cell_one_new _ _ _) ?c2 ?c3 ?c4 ?c5 ?nx))
  case c2 => intro u hu; simp at hu; subst hu; rfl
  case c3 => unfold maxLen; omega
  case c4 => omega
  case c5 => omega
  case nx =>
    intro v' w1 hown' hgrow _ hat
    obtain ⟨⟨g, cap, rfl⟩, R1, R2, R3⟩ := hw.stored1 (UInt8.ofNat n.toNat) hown' (by simp [B8]; omega) hgrow hat
    clear hown' hgrow hat
    go_wp2
    go_ret
    exact ⟨rfl, _, R1⟩

set_option maxHeartbeats 400000 in
set_option maxRecDepth 100000 in
theorem wText_bad (b : Nat) (s : ByteArray) (sv : Value) (bs : List UInt8) (w : World) (h : 65536 < s.size) (hw : WR w b sv bs) :
    Calls Tryz.prog 27 #[.pointer (some ⟨b, 0, none⟩), .string s] w fun e w' => e = .returned (.int .i64 3) ∧ w' = w := by
  have c0 := cell0_of_WR hw
  go_enter Tryz.func27, Tryz.ntmps27
  go_wp2_with (go_at_call 51; refine (wmiss_at _ _ _ c0).mono ?_; rintro e w ⟨rfl, rfl⟩)
  go_ret
  exact ⟨rfl, rfl⟩

set_option maxRecDepth 100000 in
theorem WR.storedStr {w w1 : World} {b : Nat} {sv sv' : Value} {bs : List UInt8} {s : ByteArray} (h : WR w b sv bs) (hown : w1.ownsRow 0 5 1 sv' (bs.length + s.size) (bs.map B8 ++ Lib.strCells s))
    (hg : w.grownBy w1 sv.ownBlock) (hp : ∀ k, sv'.ownBlock = some k → sv.ownBlock = some k ∨ w.heap.size ≤ k) :
    (∃ a n cap, sv' = .slice a n cap) ∧ WStep w (w1.setCell ⟨b, 1, none⟩ sv') b sv sv' (bs ++ s.data.toList) ∧ w1.cell? ⟨b, 1, none⟩ = some sv ∧ w1.frozen? ⟨b, 1, none⟩ = false := by
  refine ⟨?_, h.stored (Fr.refl [] w) ?_ hg hp⟩
  · rcases hown.2 with ⟨h, _⟩ | ⟨g, cap, _, h, _⟩
    · exact ⟨_, _, _, h⟩
    · exact ⟨_, _, _, h⟩
  · have e : (bs ++ s.data.toList).length = bs.length + s.size := by simp
    rw [e, List.map_append]; exact hown

set_option maxHeartbeats 400000 in
set_option maxRecDepth 100000 in
theorem wText_ok (b : Nat) (s : ByteArray) (sv : Value) (bs : List UInt8) (w : World) (h : s.size ≤ 65536) (hw : WR w b sv bs) (hl : bs.length ≤ 1099511627000) :
    Calls Tryz.prog 27 #[.pointer (some ⟨b, 0, none⟩), .string s] w fun e w' => e = .returned (.int .i64 0) ∧ ∃ sv', WStep w w' b sv sv' (bs ++ (enc s.size ++ s.data.toList)) := by
  have c0 := cell0_of_WR hw
  obtain ⟨i0, hi, hz0, hz1, hz2⟩ := info_parts Tryz.infoU8
  go_enter Tryz.func27, Tryz.ntmps27
  go_wp2_with (first | (go_at_call 51; refine (wmiss_at _ _ _ c0).mono ?_; rintro e w ⟨rfl, rfl⟩))
  refine (put_any _ _ _ _ _ (by omega) (by omega) hw (by omega)).mono ?_
  rintro e w2 ⟨rfl, sv2, hst⟩
  obtain ⟨bs2, hbs2⟩ : ∃ l, l = bs ++ enc s.size := ⟨_, rfl⟩
  rw [← hbs2] at hst
  have hl2 : bs2.length ≤ 1099511627776 := by have := enc_length s.size; rw [hbs2, List.length_append]; omega
  have HB : Hid (bs2 = bs ++ enc s.size) := hbs2
  clear hbs2 c0
  have hown := hst.wr.own
  have c1 := cell1_of_WR hst.wr
  have f1 := froz1_of_WR hst.wr
  go_wp2_with (at_builtin; refine wpList_append_string_place _ rfl (.tmp 18) (.tmp 19) 59 9 rfl 5 i0 Tryz.underlying59 Tryz.underlying9 hi hz0 hz1 hz2 sv2 bs2.length _ rfl hown s rfl ?c4 ?nx)
  case c4 => omega
  case nx =>
    intro v' w1 hown' hgrow hat
    obtain ⟨⟨g, m, cap, rfl⟩, R1, R2, R3⟩ := hst.wr.storedStr hown' hgrow hat
    clear hown' hgrow hat
    go_wp2
    go_ret
    have R4 := hst.trans R1
    rw [HB.out, List.append_assoc] at R4
    exact ⟨rfl, _, R4⟩

set_option maxHeartbeats 400000 in
set_option maxRecDepth 100000 in
theorem wList_low (b : Nat) (n : Int) (sv : Value) (bs : List UInt8) (w : World) (h : n < 0) (hw : WR w b sv bs) :
    Calls Tryz.prog 25 #[.pointer (some ⟨b, 0, none⟩), .int .i64 n] w fun e w' => e = .returned (.int .i64 1) ∧ w' = w := by
  have c0 := cell0_of_WR hw
  go_enter Tryz.func25, Tryz.ntmps25
  go_wp2_with (go_at_call 51; refine (wmiss_at _ _ _ c0).mono ?_; rintro e w ⟨rfl, rfl⟩)
  go_ret
  exact ⟨rfl, rfl⟩
set_option maxHeartbeats 400000 in
set_option maxRecDepth 100000 in
theorem wList_high (b : Nat) (n : Int) (sv : Value) (bs : List UInt8) (w : World) (h : 65536 < n) (hw : WR w b sv bs) :
    Calls Tryz.prog 25 #[.pointer (some ⟨b, 0, none⟩), .int .i64 n] w fun e w' => e = .returned (.int .i64 3) ∧ w' = w := by
  have c0 := cell0_of_WR hw
  go_enter Tryz.func25, Tryz.ntmps25
  go_wp2_with (go_at_call 51; refine (wmiss_at _ _ _ c0).mono ?_; rintro e w ⟨rfl, rfl⟩)
  go_ret
  exact ⟨rfl, rfl⟩
set_option maxHeartbeats 400000 in
set_option maxRecDepth 100000 in
theorem wList_ok (b : Nat) (n : Int) (sv : Value) (bs : List UInt8) (w : World) (h0 : 0 ≤ n) (h : n ≤ 65536) (hw : WR w b sv bs) (hl : bs.length ≤ 1099511627776) :
    Calls Tryz.prog 25 #[.pointer (some ⟨b, 0, none⟩), .int .i64 n] w fun e w' => e = .returned (.int .i64 0) ∧ ∃ sv', WStep w w' b sv sv' (bs ++ enc n) := by
  have c0 := cell0_of_WR hw
  go_enter Tryz.func25, Tryz.ntmps25
  go_wp2_with (first | (go_at_call 51; refine (wmiss_at _ _ _ c0).mono ?_; rintro e w ⟨rfl, rfl⟩) | (go_at_call 52; refine (put_any _ _ _ _ _ (by omega) (by omega) hw hl).mono ?_; rintro e w' ⟨rfl, sv', hst⟩))
  go_ret
  exact ⟨rfl, sv', hst⟩

set_option maxRecDepth 100000 in
theorem foldl_push (l : List UInt8) : ∀ a : ByteArray, (l.map (fun c => (c.toNat : Int))).foldl (fun r n => r.push (UInt8.ofNat n.toNat)) a = ⟨(a.data.toList ++ l).toArray⟩ := by
  induction l with
  | nil => intro a; simp
  | cons c l ih =>
    intro a
    simp only [List.map_cons, List.foldl_cons, ih]
    simp [ByteArray.push]

set_option maxRecDepth 100000 in
theorem convert_own {w : World} {sv : Value} {bs : List UInt8} (h : w.ownsRow 0 5 1 sv bs.length (bs.map B8)) :
    (convert 59 9 sv).run Tryz.prog w = .ok (.string (str bs)) w := by
  rcases h.2 with ⟨rfl, hn⟩ | ⟨g, cap, cur, rfl, h0, hg, r⟩
  · rw [run_convert_bytes_string w _ _ 5 _ _ _ Tryz.underlying59 Tryz.underlying5 Tryz.underlying9]
    have : bs = [] := List.eq_nil_of_length_eq_zero hn
    subst this
    simp [Conv.bytesToString, str, Sem.run_pure]
    rfl
  · rw [run_convert_bytes_string w _ _ 5 _ _ _ Tryz.underlying59 Tryz.underlying5 Tryz.underlying9]
    have hl : (loadCells ⟨g, 0, none⟩ bs.length).run Tryz.prog w = .ok ((bs.map (fun c => (c.toNat : Int))).map (Value.int .u8)).toArray w := by
      have e : bs.map B8 = (bs.map (fun c => (c.toNat : Int))).map (Value.int .u8) := by simp [B8]
      rw [← e]
      have := run_loadCells_list (P := Tryz.prog) (w := w) ⟨g, 0, none⟩ (bs.map B8) (h.cells (g := g) rfl)
      rw [List.length_map] at this
      exact this
    rw [run_bytesToString w _ _ _ _ hl, foldl_push]
    simp [str]

set_option maxHeartbeats 400000 in
set_option maxRecDepth 100000 in
theorem wBytes_any (b : Nat) (sv : Value) (bs : List UInt8) (w : World) (hw : WR w b sv bs) :
    Calls Tryz.prog 28 #[.pointer (some ⟨b, 0, none⟩)] w fun e w' => e = .returned (.string (str bs)) ∧ w' = w := by
  have c0 := cell0_of_WR hw
  have c1 := cell1_of_WR hw
  have hc := convert_own hw.own
  go_enter Tryz.func28, Tryz.ntmps28
  go_wp2_with (go_at_call 51; refine (wmiss_at _ _ _ c0).mono ?_; rintro e w ⟨rfl, rfl⟩)
  go_ret
  exact ⟨rfl, rfl⟩

set_option maxHeartbeats 400000 in
set_option maxRecDepth 100000 in
theorem newWriter_any (w : World) :
    Calls Tryz.prog 24 #[] w fun e w' => e = .returned (.pointer (some ⟨w.heap.size, 0, none⟩)) ∧ w' = w.alloc (.cells #[.bool true, .slice none 0 0] 94) := by
  go_enter Tryz.func24, Tryz.ntmps24
  go_wp2
  go_ret
  exact ⟨rfl, rfl⟩

end Go.Proofs.YtfnpeiikjiffeaaGreat.Wi

/- Numbers as bytes, there and back: what is written is read, what is read was written so; unlike numbers have unlike bytes. Nothing of the program is in this text. -/
namespace Go.Proofs.YtfnpeiikjiffeaaGreat.Wi
open Go.RowKit

set_option maxRecDepth 100000 in
theorem ofNat_small (z : Nat) (h : z < 256) : (UInt8.ofNat z).toNat = z := by simp; omega

set_option maxRecDepth 100000 in
theorem split_mul (z0 z p : Nat) : z0 + z % 128 * p + z / 128 * (128 * p) = z0 + z * p := by
  have e : z / 128 * (128 * p) = (z / 128 * 128) * p := by rw [Nat.mul_assoc]
  have e2 : z % 128 * p + (z / 128 * 128) * p = z * p := by
    rw [← Nat.add_mul]; congr 1; omega
  rw [e, Nat.add_assoc, e2]

set_option maxRecDepth 100000 in
theorem tn_vbF (l : List UInt8) (f : Nat) : ∀ (i k z0 z : Nat), (∀ j, j < (vbF f z).length → l[k + j]? = (vbF f z)[j]?) → z < lim f → i ≤ 9 → z0 + z * 128 ^ i < 18446744073709551616 → (0 < i → z ≠ 0) →
    tn l (f + 1) i k z0 = some (uz (z0 + z * 128 ^ i), k + (vbF f z).length) := by
  induction f with
  | zero =>
    intro i k z0 z hl hz hi ht hne
    have hz' : z < 128 := hz
    have hc : l[k]? = some (UInt8.ofNat z) := by have := hl 0 (by simp [vbF]); simpa [vbF] using this
    have e := ofNat_small z (by omega)
    rw [tn_last l 0 i k z0 _ hc ?h1 ?h2 (by rw [e]; exact hz'), e, Nat.mod_eq_of_lt hz']
    · simp [vbF]
    case h1 =>
      rintro ⟨rfl, h⟩; rw [e] at h
      have e9 : (128 : Nat) ^ 9 = 9223372036854775808 := by decide
      rw [e9] at ht
      have : 2 * 9223372036854775808 ≤ z * 9223372036854775808 := Nat.mul_le_mul_right _ h
      omega
    case h2 => rintro ⟨h, h'⟩; rw [e] at h'; exact hne h h'
  | succ f ih =>
    intro i k z0 z hl hz hi ht hne
    by_cases hz' : z < 128
    · have hv := vbF_small (f + 1) z hz'
      rw [hv] at hl ⊢
      have hc : l[k]? = some (UInt8.ofNat z) := by have := hl 0 (by simp); simpa using this
      have e := ofNat_small z (by omega)
      rw [tn_last l (f + 1) i k z0 _ hc ?h1 ?h2 (by rw [e]; exact hz'), e, Nat.mod_eq_of_lt hz']
      · simp
      case h1 =>
        rintro ⟨rfl, h⟩; rw [e] at h
        have e9 : (128 : Nat) ^ 9 = 9223372036854775808 := by decide
        rw [e9] at ht
        have : 2 * 9223372036854775808 ≤ z * 9223372036854775808 := Nat.mul_le_mul_right _ h
        omega
      case h2 => rintro ⟨h, h'⟩; rw [e] at h'; exact hne h h'
    · have hv := vbF_big f z hz'
      rw [hv] at hl ⊢
      have hc : l[k]? = some (UInt8.ofNat (z % 128 + 128)) := by have := hl 0 (by simp); simpa using this
      have e := ofNat_small (z % 128 + 128) (by omega)
      have hi9 : i ≠ 9 := by
        rintro rfl
        have e9 : (128 : Nat) ^ 9 = 9223372036854775808 := by decide
        rw [e9] at ht
        have : 128 * 9223372036854775808 ≤ z * 9223372036854775808 := Nat.mul_le_mul_right _ (by omega)
        omega
      have em : (z % 128 + 128) % 128 = z % 128 := by omega
      have ep : 128 ^ (i + 1) = 128 * 128 ^ i := by rw [Nat.pow_succ, Nat.mul_comm]
      rw [tn_more l (f + 1) i k z0 _ hc (by omega) (by rw [e]; omega) (by rw [e]; omega), e, em]
      have hs := split_mul z0 z (128 ^ i)
      have hr := ih (i + 1) (k + 1) (z0 + z % 128 * 128 ^ i) (z / 128) (fun j hj => by
        have := hl (j + 1) (by simp; omega)
        rw [show k + 1 + j = k + (j + 1) from by omega]; simpa using this) (Nat.div_lt_of_lt_mul hz) (by omega) (by rw [ep, hs]; exact ht) (fun _ => by omega)
      rw [hr, ep, hs]
      simp; omega

set_option maxRecDepth 100000 in
theorem tnum_enc (l : List UInt8) (k : Nat) (n : Int) (h1 : -9223372036854775808 ≤ n) (h2 : n ≤ 9223372036854775807) (hl : ∀ j, j < (enc n).length → l[k + j]? = (enc n)[j]?) :
    tnum l k = some (n, k + (enc n).length) := by
  have hz := zz_lt n h1 h2
  have := tn_vbF l 9 0 k 0 (zz n) hl (lim9 _ hz) (by omega) (by simpa using hz) (by omega)
  unfold tnum
  rw [this]
  simp [uz_zz, enc, vb]

set_option maxRecDepth 100000 in
theorem tn_back (l : List UInt8) (f : Nat) : ∀ (i k z0 : Nat) (n : Int) (j : Nat), tn l (f + 1) i k z0 = some (n, j) → z0 < 128 ^ i → i + f = 9 →
    ∃ z, n = uz (z0 + z * 128 ^ i) ∧ (l.drop k).take (j - k) = vbF f z ∧ (0 < i → z ≠ 0) ∧ (f = 0 → z < 128) := by
  induction f with
  | zero =>
    intro i k z0 n j h hz hi
    cases hl : l[k]? with
    | none => rw [tn_end l 0 i k z0 hl] at h; cases h
    | some c =>
      simp only [tn, hl] at h
      split at h
      · cases h
      · split at h
        · cases h
        · split at h
          · rename_i h1 h2 h3
            simp at h
            refine ⟨c.toNat, ?_, ?_, fun h => by omega, fun _ => h3⟩
            · rw [← h.1, Nat.mod_eq_of_lt h3]
            · rw [← h.2]
              have hk : k < l.length := by
                rcases Nat.lt_or_ge k l.length with q | q
                · exact q
                · rw [List.getElem?_eq_none q] at hl; cases hl
              rw [show k + 1 - k = 1 from by omega, vbF, List.drop_eq_getElem_cons hk]
              rw [List.getElem?_eq_getElem hk] at hl; simp at hl
              simp [hl]
          · simp at h
  | succ f ih =>
    intro i k z0 n j h hz hi
    cases hl : l[k]? with
    | none => rw [tn_end l (f + 1) i k z0 hl] at h; cases h
    | some c =>
      have hk : k < l.length := by
        rcases Nat.lt_or_ge k l.length with q | q
        · exact q
        · rw [List.getElem?_eq_none q] at hl; cases hl
      have hd : l.drop k = c :: l.drop (k + 1) := by
        rw [List.drop_eq_getElem_cons hk]
        rw [List.getElem?_eq_getElem hk] at hl; simp at hl; rw [hl]
      by_cases h1 : i = 9 ∧ 1 < c.toNat
      · omega
      · by_cases h2 : 0 < i ∧ c.toNat = 0
        · rw [tn_zero l (f + 1) i k z0 c hl h2.1 h2.2] at h; cases h
        · by_cases h3 : c.toNat < 128
          · rw [tn_last l (f + 1) i k z0 c hl h1 h2 h3] at h
            simp at h
            refine ⟨c.toNat, ?_, ?_, fun h => by omega, fun h => by omega⟩
            · rw [← h.1, Nat.mod_eq_of_lt h3]
            · rw [← h.2, show k + 1 - k = 1 from by omega, vbF_small _ _ h3, hd]; simp
          · rw [tn_more l (f + 1) i k z0 c hl h1 h2 h3] at h
            obtain ⟨z, e1, e2, e3, _⟩ := ih (i + 1) (k + 1) _ n j h (step_pow z0 i c.toNat hz) (by omega)
            have hc := c.toNat_lt
            have ep : 128 ^ (i + 1) = 128 * 128 ^ i := by rw [Nat.pow_succ, Nat.mul_comm]
            have hj := tn_place l (f + 1) (i + 1) (k + 1) _ n j h
            have hz0 : z ≠ 0 := e3 (by omega)
            have em : (c.toNat % 128 + 128 * z) % 128 = c.toNat % 128 := by omega
            have ed : (c.toNat % 128 + 128 * z) / 128 = z := by omega
            refine ⟨c.toNat % 128 + 128 * z, ?_, ?_, fun _ => by omega, fun h => by omega⟩
            · have hs := split_mul z0 (c.toNat % 128 + 128 * z) (128 ^ i)
              rw [em, ed] at hs
              rw [e1, ep, hs]
            · rw [vbF_big f _ (by omega), em, ed, ← e2, hd, show j - k = (j - (k + 1)) + 1 from by omega, List.take_succ_cons]
              congr 1
              apply UInt8.toNat.inj
              simp; omega

set_option maxRecDepth 100000 in
theorem enc_of_tnum {l : List UInt8} {k : Nat} {n : Int} {j : Nat} (h : tnum l k = some (n, j)) : enc n = (l.drop k).take (j - k) := by
  obtain ⟨z, e1, e2, _, _⟩ := tn_back l 9 0 k 0 n j h (by decide) (by omega)
  simp at e1
  rw [e2, enc, e1, zz_uz]; rfl

set_option maxRecDepth 100000 in
/-- The bytes of a number are not the beginning of another one's. -/
theorem enc_prefix (m n : Int) (a1 : -9223372036854775808 ≤ m) (a2 : m ≤ 9223372036854775807) (b1 : -9223372036854775808 ≤ n) (b2 : n ≤ 9223372036854775807)
    (h : (enc m).take (min (enc m).length (enc n).length) = (enc n).take (min (enc m).length (enc n).length)) : m = n := by
  have key : ∀ (m n : Int), -9223372036854775808 ≤ m → m ≤ 9223372036854775807 → -9223372036854775808 ≤ n → n ≤ 9223372036854775807 → (enc m).length ≤ (enc n).length → enc m = (enc n).take (enc m).length → m = n := by
    intro m n a1 a2 b1 b2 hle he
    have t1 := tnum_enc (enc n) 0 n b1 b2 (fun j _ => by simp)
    have t2 := tnum_enc (enc n) 0 m a1 a2 (fun j hj => by
      rw [Nat.zero_add]
      have e : (enc m)[j]? = ((enc n).take (enc m).length)[j]? := by rw [← he]
      rw [e, List.getElem?_take_of_lt hj])
    rw [t1] at t2; simp at t2; exact t2.1.symm
  rcases Nat.le_total (enc m).length (enc n).length with hle | hle
  · rw [Nat.min_eq_left hle, List.take_length] at h
    exact key m n a1 a2 b1 b2 hle h
  · rw [Nat.min_eq_right hle, List.take_length] at h
    exact (key n m b1 b2 a1 a2 hle h.symm).symm
set_option maxRecDepth 100000 in
theorem vbF_mono (f a b : Nat) (h : a ≤ b) : (vbF f a).length ≤ (vbF f b).length := by
  induction f generalizing a b with
  | zero => simp [vbF]
  | succ f ih =>
    by_cases pa : a < 128
    · rw [vbF_small _ _ pa]; have := (vbF_length (f + 1) b).1; simpa using this
    · rw [vbF_big _ _ pa, vbF_big _ _ (by omega)]; simp; exact ih _ _ (by omega)
set_option maxRecDepth 100000 in
theorem enc_mono (m n : Int) (h0 : 0 ≤ m) (h : m ≤ n) : (enc m).length ≤ (enc n).length := by
  apply vbF_mono; unfold zz; rw [if_pos h0, if_pos (by omega)]; omega

set_option maxRecDepth 100000 in
theorem size_str (l : List UInt8) : (str l).size = l.length := rfl
set_option maxRecDepth 100000 in
theorem toList_str (l : List UInt8) : (str l).toList = l := by rw [ByteArray.toList_eq]; rfl
set_option maxRecDepth 100000 in
theorem toList_data (s : ByteArray) : s.toList = s.data.toList := ByteArray.toList_eq s
set_option maxRecDepth 100000 in
theorem extract_upto (s : ByteArray) (k : Nat) : (s.extract 0 k).toList = s.data.toList.take k := by rw [ByteArray.toList_eq]; simp

end Go.Proofs.YtfnpeiikjiffeaaGreat.Wi
