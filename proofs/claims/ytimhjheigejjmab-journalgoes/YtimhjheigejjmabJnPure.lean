/- A journal's heads, plainly. No program is in this text. -/
import Derived.Test.YtimhjheigejjmabDkLawP
import Derived.Laws.Bits64b
namespace Go.Proofs.Ytimhjheigejjmab

/-- A number as so many bytes, the highest first. -/
def be : Nat → Nat → List UInt8
  | 0, _ => []
  | k + 1, n => UInt8.ofNat (n / 256 ^ k % 256) :: be k n
theorem be_len (k n : Nat) : (be k n).length = k := by
  induction k with
  | zero => rfl
  | succ k ih => simp [be, ih]
theorem be_get (k n t : Nat) (h : t < k) : (be k n)[t]? = some (UInt8.ofNat (n / 256 ^ (k - 1 - t) % 256)) := by
  induction k generalizing t with
  | zero => omega
  | succ k ih =>
    cases t with
    | zero => simp [be]
    | succ t =>
      have := ih t (by omega)
      simp only [be, List.getElem?_cons_succ]
      rw [this]
      have e : k - 1 - t = k + 1 - 1 - (t + 1) := by omega
      rw [e]
theorem be_take_succ (k n t : Nat) (h : t < k) : (be k n).take (t + 1) = (be k n).take t ++ [UInt8.ofNat (n / 256 ^ (k - 1 - t) % 256)] := by
  rw [List.take_add_one, be_get k n t h]; rfl
/-- The first bytes of a text as a sector, with noughts behind. -/
def fill (l : List UInt8) : ByteArray := ⟨(l.take 64 ++ List.replicate (64 - l.length) 0).toArray⟩
theorem fill_size (l : List UInt8) : (fill l).size = 64 := by
  simp only [fill, ByteArray.size, List.size_toArray, List.length_append, List.length_take, List.length_replicate]; omega
theorem fill_get (l : List UInt8) (i : Nat) (x : UInt8) (h : l[i]? = some x) (hi : i < 64) : (fill l).data.toList[i]? = some x := by
  simp only [fill, List.toList_toArray]
  rw [List.getElem?_append_left (by have := (List.getElem?_eq_some_iff.1 h).1; simp; omega), List.getElem?_take, if_pos hi]
  exact h
def hdL (n len : Nat) : List UInt8 := if n = 0 then [] else 74 :: (be 8 n ++ be 4 len)
theorem hdL_len (n len : Nat) : (hdL n len).length ≤ 13 := by
  unfold hdL; split
  · simp
  · simp [be_len]
/-- The head of a text of a number; of the number 0: none. -/
def hd (n len : Nat) : ByteArray := fill (hdL n len)
theorem hd_size (n len : Nat) : (hd n len).size = 64 := fill_size _
theorem hd_zero (len : Nat) : hd 0 len = nought := rfl
theorem fill_tail {l : List UInt8} (h : l.length ≤ 32) : (fill l).extract 32 64 = ⟨(List.replicate 32 (0 : UInt8)).toArray⟩ := by
  apply ByteArray.ext
  apply Array.ext'
  simp only [fill, ByteArray.data_extract, Array.toList_extract, List.extract_eq_take_drop, List.toList_toArray]
  rw [List.take_of_length_le (l := l) (by omega), List.drop_append, List.drop_of_length_le h, List.nil_append, List.drop_replicate, List.take_of_length_le (by simp; omega)]
  congr 1; omega
theorem hd_tail (n len : Nat) : (hd n len).extract 32 64 = ⟨(List.replicate 32 (0 : UInt8)).toArray⟩ := fill_tail (Nat.le_trans (hdL_len n len) (by omega))
theorem split64 {s : ByteArray} (h : s.size = 64) : s.extract 0 32 ++ s.extract 32 64 = s := by
  cases s with | mk s =>
  have h : s.size = 64 := h
  apply ByteArray.ext
  apply Array.ext'
  have hl : s.toList.length = 64 := by simpa using h
  simp only [ByteArray.data_append, ByteArray.data_extract, Array.toList_append, Array.toList_extract, List.extract_eq_take_drop]
  rw [List.drop_zero]
  conv => rhs; rw [← List.take_append_drop 32 s.toList]
  congr 1
  exact List.take_of_length_le (by simp; omega)
/-- A torn head is the old or the new one. -/
theorem torn_hd (n len m len2 : Nat) (how : Int) : torn (hd n len) (hd m len2) how = hd n len ∨ torn (hd n len) (hd m len2) how = hd m len2 := by
  unfold torn
  split
  · exact Or.inr rfl
  · split
    · right; rw [hd_tail n len, ← hd_tail m len2]; exact split64 (hd_size _ _)
    · split
      · left; rw [hd_tail m len2, ← hd_tail n len]; exact split64 (hd_size _ _)
      · exact Or.inl rfl
/-! Bytes of numbers, as the program reckons them. -/
theorem and255 (a : Nat) (h : a < 9223372036854775808) : Go.bits BinOp.and IntKind.i64 (a : Int) 255 = ((a % 256 : Nat) : Int) := by
  have h' : Go.bits BinOp.and IntKind.i64 (a : Int) 255 = IntKind.i64.wrap ((BitVec.ofInt 64 (a : Int) &&& BitVec.ofInt 64 255).toNat : Int) := rfl
  have e : (BitVec.ofInt 64 255).toNat = 2 ^ 8 - 1 := by decide
  have e2 : (BitVec.ofInt 64 (a : Int)).toNat = a := by rw [BitVec.ofInt_natCast, BitVec.toNat_ofNat]; exact Nat.mod_eq_of_lt (by omega)
  rw [h', BitVec.toNat_and, e, e2, Nat.and_two_pow_sub_one_eq_mod]
  simp only [IntKind.wrap, IntKind.bits, IntKind.signed]
  have : a % 2 ^ 8 < 256 := Nat.mod_lt _ (by decide)
  have e3 : a % 2 ^ 8 = a % 256 := rfl
  rw [e3] at this ⊢
  generalize a % 256 = r at *
  simp
  omega
set_option maxRecDepth 100000 in
theorem or_byte (a b : Nat) (h : a * 256 + b < 9223372036854775808) (hb : b < 256) : Go.bits BinOp.or IntKind.i64 ((a * 256 : Nat) : Int) (b : Int) = ((a * 256 + b : Nat) : Int) := by
  have h' : Go.bits BinOp.or IntKind.i64 ((a * 256 : Nat) : Int) (b : Int) = IntKind.i64.wrap ((BitVec.ofInt 64 ((a * 256 : Nat) : Int) ||| BitVec.ofInt 64 (b : Int)).toNat : Int) := rfl
  have e1 : (BitVec.ofInt 64 ((a * 256 : Nat) : Int)).toNat = a * 256 := by
    have hh : a * 256 < 9223372036854775808 := by omega
    generalize a * 256 = q at *
    rw [BitVec.ofInt_natCast, BitVec.toNat_ofNat]; exact Nat.mod_eq_of_lt (by omega)
  have e2 : (BitVec.ofInt 64 (b : Int)).toNat = b := by rw [BitVec.ofInt_natCast, BitVec.toNat_ofNat]; exact Nat.mod_eq_of_lt (by omega)
  have e3 : a * 256 ||| b = a * 256 + b := by
    have := (Nat.two_pow_add_eq_or_of_lt (i := 8) (b := b) hb a).symm
    rw [Nat.mul_comm a 256]; exact this
  rw [h', BitVec.toNat_or, e1, e2, e3]
  simp only [IntKind.wrap, IntKind.bits, IntKind.signed]
  generalize a * 256 + b = r at *
  simp
  omega
theorem div_step (n k t : Nat) (ht : t < k) : n / 256 ^ (k - (t + 1)) = n / 256 ^ (k - t) * 256 + n / 256 ^ (k - 1 - t) % 256 := by
  have e1 : k - (t + 1) = k - 1 - t := by omega
  have e2 : k - t = (k - 1 - t) + 1 := by omega
  rw [e1, e2, Nat.pow_succ, ← Nat.div_div_eq_div_mul]
  omega

end Go.Proofs.Ytimhjheigejjmab
