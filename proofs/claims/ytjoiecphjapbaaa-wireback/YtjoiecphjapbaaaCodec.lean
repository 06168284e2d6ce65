/- Numbers as bytes, there and back: what is written is read, what is read was written so; unlike numbers have unlike bytes. Nothing of the program is in this text. -/
import Derived.Test.YtjoiecphjapbaaaWrB
namespace Go.Proofs.Ytjoiecphjapbaaa
open Go.RowKit

theorem ofNat_small (z : Nat) (h : z < 256) : (UInt8.ofNat z).toNat = z := by simp; omega

theorem split_mul (z0 z p : Nat) : z0 + z % 128 * p + z / 128 * (128 * p) = z0 + z * p := by
  have e : z / 128 * (128 * p) = (z / 128 * 128) * p := by rw [Nat.mul_assoc]
  have e2 : z % 128 * p + (z / 128 * 128) * p = z * p := by
    rw [← Nat.add_mul]; congr 1; omega
  rw [e, Nat.add_assoc, e2]

theorem tn_vbF (l : List UInt8) (f : Nat) : ∀ (i k z0 z : Nat), (∀ j, j < (vbF f z).length → l[k + j]? = (vbF f z)[j]?) → z < lim f → i ≤ 9 → z0 + z * 128 ^ i < 18446744073709551616 → (0 < i → z ≠ 0) →
    tn l (f + 1) i k z0 = some (uz (z0 + z * 128 ^ i), k + (vbF f z).length) := by
  induction f with
  | zero =>
    intro i k z0 z hl hz hi ht hne
    have hz' : z < 128 := hz
    have hc : l[k]? = some (UInt8.ofNat z) := by have := hl 0 (by simp [vbF]); simpa [vbF] using this
    have e := ofNat_small z (by omega)
    rw [tn_last l 0 i k z0 _ hc ?h1 ?h2 (by rw [e]; exact hz'), e, Nat.mod_eq_of_lt hz']
    · simp [vbF]
    case h1 =>
      rintro ⟨rfl, h⟩; rw [e] at h
      have e9 : (128 : Nat) ^ 9 = 9223372036854775808 := by decide
      rw [e9] at ht
      have : 2 * 9223372036854775808 ≤ z * 9223372036854775808 := Nat.mul_le_mul_right _ h
      omega
    case h2 => rintro ⟨h, h'⟩; rw [e] at h'; exact hne h h'
  | succ f ih =>
    intro i k z0 z hl hz hi ht hne
    by_cases hz' : z < 128
    · have hv := vbF_small (f + 1) z hz'
      rw [hv] at hl ⊢
      have hc : l[k]? = some (UInt8.ofNat z) := by have := hl 0 (by simp); simpa using this
      have e := ofNat_small z (by omega)
      rw [tn_last l (f + 1) i k z0 _ hc ?h1 ?h2 (by rw [e]; exact hz'), e, Nat.mod_eq_of_lt hz']
      · simp
      case h1 =>
        rintro ⟨rfl, h⟩; rw [e] at h
        have e9 : (128 : Nat) ^ 9 = 9223372036854775808 := by decide
        rw [e9] at ht
        have : 2 * 9223372036854775808 ≤ z * 9223372036854775808 := Nat.mul_le_mul_right _ h
        omega
      case h2 => rintro ⟨h, h'⟩; rw [e] at h'; exact hne h h'
    · have hv := vbF_big f z hz'
      rw [hv] at hl ⊢
      have hc : l[k]? = some (UInt8.ofNat (z % 128 + 128)) := by have := hl 0 (by simp); simpa using this
      have e := ofNat_small (z % 128 + 128) (by omega)
      have hi9 : i ≠ 9 := by
        rintro rfl
        have e9 : (128 : Nat) ^ 9 = 9223372036854775808 := by decide
        rw [e9] at ht
        have : 128 * 9223372036854775808 ≤ z * 9223372036854775808 := Nat.mul_le_mul_right _ (by omega)
        omega
      have em : (z % 128 + 128) % 128 = z % 128 := by omega
      have ep : 128 ^ (i + 1) = 128 * 128 ^ i := by rw [Nat.pow_succ, Nat.mul_comm]
      rw [tn_more l (f + 1) i k z0 _ hc (by omega) (by rw [e]; omega) (by rw [e]; omega), e, em]
      have hs := split_mul z0 z (128 ^ i)
      have hr := ih (i + 1) (k + 1) (z0 + z % 128 * 128 ^ i) (z / 128) (fun j hj => by
        have := hl (j + 1) (by simp; omega)
        rw [show k + 1 + j = k + (j + 1) from by omega]; simpa using this) (Nat.div_lt_of_lt_mul hz) (by omega) (by rw [ep, hs]; exact ht) (fun _ => by omega)
      rw [hr, ep, hs]
      simp; omega

theorem tnum_enc (l : List UInt8) (k : Nat) (n : Int) (h1 : -9223372036854775808 ≤ n) (h2 : n ≤ 9223372036854775807) (hl : ∀ j, j < (enc n).length → l[k + j]? = (enc n)[j]?) :
    tnum l k = some (n, k + (enc n).length) := by
  have hz := zz_lt n h1 h2
  have := tn_vbF l 9 0 k 0 (zz n) hl (lim9 _ hz) (by omega) (by simpa using hz) (by omega)
  unfold tnum
  rw [this]
  simp [uz_zz, enc, vb]

theorem tn_back (l : List UInt8) (f : Nat) : ∀ (i k z0 : Nat) (n : Int) (j : Nat), tn l (f + 1) i k z0 = some (n, j) → z0 < 128 ^ i → i + f = 9 →
    ∃ z, n = uz (z0 + z * 128 ^ i) ∧ (l.drop k).take (j - k) = vbF f z ∧ (0 < i → z ≠ 0) ∧ (f = 0 → z < 128) := by
  induction f with
  | zero =>
    intro i k z0 n j h hz hi
    cases hl : l[k]? with
    | none => rw [tn_end l 0 i k z0 hl] at h; cases h
    | some c =>
      simp only [tn, hl] at h
      split at h
      · cases h
      · split at h
        · cases h
        · split at h
          · rename_i h1 h2 h3
            simp at h
            refine ⟨c.toNat, ?_, ?_, fun h => by omega, fun _ => h3⟩
            · rw [← h.1, Nat.mod_eq_of_lt h3]
            · rw [← h.2]
              have hk : k < l.length := by
                rcases Nat.lt_or_ge k l.length with q | q
                · exact q
                · rw [List.getElem?_eq_none q] at hl; cases hl
              rw [show k + 1 - k = 1 from by omega, vbF, List.drop_eq_getElem_cons hk]
              rw [List.getElem?_eq_getElem hk] at hl; simp at hl
              simp [hl]
          · simp at h
  | succ f ih =>
    intro i k z0 n j h hz hi
    cases hl : l[k]? with
    | none => rw [tn_end l (f + 1) i k z0 hl] at h; cases h
    | some c =>
      have hk : k < l.length := by
        rcases Nat.lt_or_ge k l.length with q | q
        · exact q
        · rw [List.getElem?_eq_none q] at hl; cases hl
      have hd : l.drop k = c :: l.drop (k + 1) := by
        rw [List.drop_eq_getElem_cons hk]
        rw [List.getElem?_eq_getElem hk] at hl; simp at hl; rw [hl]
      by_cases h1 : i = 9 ∧ 1 < c.toNat
      · omega
      · by_cases h2 : 0 < i ∧ c.toNat = 0
        · rw [tn_zero l (f + 1) i k z0 c hl h2.1 h2.2] at h; cases h
        · by_cases h3 : c.toNat < 128
          · rw [tn_last l (f + 1) i k z0 c hl h1 h2 h3] at h
            simp at h
            refine ⟨c.toNat, ?_, ?_, fun h => by omega, fun h => by omega⟩
            · rw [← h.1, Nat.mod_eq_of_lt h3]
            · rw [← h.2, show k + 1 - k = 1 from by omega, vbF_small _ _ h3, hd]; simp
          · rw [tn_more l (f + 1) i k z0 c hl h1 h2 h3] at h
            obtain ⟨z, e1, e2, e3, _⟩ := ih (i + 1) (k + 1) _ n j h (step_pow z0 i c.toNat hz) (by omega)
            have hc := c.toNat_lt
            have ep : 128 ^ (i + 1) = 128 * 128 ^ i := by rw [Nat.pow_succ, Nat.mul_comm]
            have hj := tn_place l (f + 1) (i + 1) (k + 1) _ n j h
            have hz0 : z ≠ 0 := e3 (by omega)
            have em : (c.toNat % 128 + 128 * z) % 128 = c.toNat % 128 := by omega
            have ed : (c.toNat % 128 + 128 * z) / 128 = z := by omega
            refine ⟨c.toNat % 128 + 128 * z, ?_, ?_, fun _ => by omega, fun h => by omega⟩
            · have hs := split_mul z0 (c.toNat % 128 + 128 * z) (128 ^ i)
              rw [em, ed] at hs
              rw [e1, ep, hs]
            · rw [vbF_big f _ (by omega), em, ed, ← e2, hd, show j - k = (j - (k + 1)) + 1 from by omega, List.take_succ_cons]
              congr 1
              apply UInt8.toNat.inj
              simp; omega

theorem enc_of_tnum {l : List UInt8} {k : Nat} {n : Int} {j : Nat} (h : tnum l k = some (n, j)) : enc n = (l.drop k).take (j - k) := by
  obtain ⟨z, e1, e2, _, _⟩ := tn_back l 9 0 k 0 n j h (by decide) (by omega)
  simp at e1
  rw [e2, enc, e1, zz_uz]; rfl

/-- The bytes of a number are not the beginning of another one's. -/
theorem enc_prefix (m n : Int) (a1 : -9223372036854775808 ≤ m) (a2 : m ≤ 9223372036854775807) (b1 : -9223372036854775808 ≤ n) (b2 : n ≤ 9223372036854775807)
    (h : (enc m).take (min (enc m).length (enc n).length) = (enc n).take (min (enc m).length (enc n).length)) : m = n := by
  have key : ∀ (m n : Int), -9223372036854775808 ≤ m → m ≤ 9223372036854775807 → -9223372036854775808 ≤ n → n ≤ 9223372036854775807 → (enc m).length ≤ (enc n).length → enc m = (enc n).take (enc m).length → m = n := by
    intro m n a1 a2 b1 b2 hle he
    have t1 := tnum_enc (enc n) 0 n b1 b2 (fun j _ => by simp)
    have t2 := tnum_enc (enc n) 0 m a1 a2 (fun j hj => by
      rw [Nat.zero_add]
      have e : (enc m)[j]? = ((enc n).take (enc m).length)[j]? := by rw [← he]
      rw [e, List.getElem?_take_of_lt hj])
    rw [t1] at t2; simp at t2; exact t2.1.symm
  rcases Nat.le_total (enc m).length (enc n).length with hle | hle
  · rw [Nat.min_eq_left hle, List.take_length] at h
    exact key m n a1 a2 b1 b2 hle h
  · rw [Nat.min_eq_right hle, List.take_length] at h
    exact (key n m b1 b2 a1 a2 hle h.symm).symm
theorem vbF_mono (f a b : Nat) (h : a ≤ b) : (vbF f a).length ≤ (vbF f b).length := by
  induction f generalizing a b with
  | zero => simp [vbF]
  | succ f ih =>
    by_cases pa : a < 128
    · rw [vbF_small _ _ pa]; have := (vbF_length (f + 1) b).1; simpa using this
    · rw [vbF_big _ _ pa, vbF_big _ _ (by omega)]; simp; exact ih _ _ (by omega)
theorem enc_mono (m n : Int) (h0 : 0 ≤ m) (h : m ≤ n) : (enc m).length ≤ (enc n).length := by
  apply vbF_mono; unfold zz; rw [if_pos h0, if_pos (by omega)]; omega

theorem size_str (l : List UInt8) : (str l).size = l.length := rfl
theorem toList_str (l : List UInt8) : (str l).toList = l := by rw [ByteArray.toList_eq]; rfl
theorem toList_data (s : ByteArray) : s.toList = s.data.toList := ByteArray.toList_eq s
theorem extract_upto (s : ByteArray) (k : Nat) : (s.extract 0 k).toList = s.data.toList.take k := by rw [ByteArray.toList_eq]; simp

end Go.Proofs.Ytjoiecphjapbaaa
