/- Unpack as the document's own one goes: it answers as the plain one. Nothing of the program is in this text. -/
import Derived.Test.YtfnpeiikjiffeaaGreatStPure
namespace Go.Proofs.YtfnpeiikjiffeaaGreat
open Go.RowKit

def finU (s : ByteArray) (done : List PP) : Option (List PP × Nat) → Option (List PP)
  | none => none
  | some (l, k) => if k = s.size ∧ packX (done ++ l) = 0 then some (done ++ l) else none
theorem tcnt_tnum {L : List UInt8} {k j : Nat} {n : Int} (h : Wi.tcnt L k = some (n, j)) : Wi.tnum L k = some (n, j) := by
  unfold Wi.tcnt at h
  cases ht : Wi.tnum L k with
  | none => rw [ht] at h; simp at h
  | some p =>
    rw [ht] at h; simp only at h
    split at h
    · cases h
    · rw [← h]
theorem finU_unpack {s : ByteArray} {n : Int} {j : Nat} (h : Wi.tcnt s.data.toList 0 = some (n, j)) : unpackP s = finU s [] (takeP s.data.toList n.toNat j) := by
  obtain ⟨p1, p2, p3, p4, p5⟩ := Wi.tcnt_place h
  obtain ⟨m, rfl⟩ : ∃ m : Nat, n = (m : Int) := ⟨n.toNat, by omega⟩
  have he := Wi.enc_of_tnum (tcnt_tnum h)
  have hsz := size_list s
  simp only [Int.toNat_natCast]
  cases ht : takeP s.data.toList m j with
  | none =>
    have : unpackT s = none := by
      unfold unpackT; rw [h]; simp only [Int.toNat_natCast]
      split
      · rfl
      · rw [ht]; rfl
    unfold unpackP; rw [this]; rfl
  | some r =>
    obtain ⟨l, k⟩ := r
    obtain ⟨q1, q2, q3, q4, q5⟩ := takeP_back _ _ p3 ht
    simp only [finU, List.nil_append]
    by_cases hm : 256 < m
    · have h1 : unpackT s = none := by
        unfold unpackT; rw [h]; simp only; rw [if_pos (by omega)]
      have h2 : packX l = 3 := by unfold packX; rw [if_pos (by omega)]
      unfold unpackP; rw [h1, h2]; simp
    · have h1 : unpackT s = some l := by
        unfold unpackT; rw [h]; simp only [Int.toNat_natCast]; rw [if_neg (by omega), ht]; rfl
      have hp : packB l = s.data.toList.take k := by
        rw [packB, q1, he, q2, show j - 0 = j from rfl, List.drop_zero, show k = j + (k - j) from by omega, List.take_add]
        simp
      have hiff : Wi.str (packB l) = s ↔ k = s.size := by
        rw [hp]
        constructor
        · intro c
          have := congrArg (fun b : ByteArray => b.data.toList.length) c
          simp only [data_str, List.length_take] at this
          omega
        · intro c
          rw [List.take_of_length_le (by omega), str_data]
      unfold unpackP; rw [h1]; simp only
      by_cases c1 : packX l = 0 ∧ Wi.str (packB l) = s
      · rw [if_pos c1, if_pos ⟨hiff.1 c1.2, c1.1⟩]
      · rw [if_neg c1, if_neg (fun c => c1 ⟨c.2, hiff.2 c.1⟩)]
theorem unpackP_bad {s : ByteArray} (h : Wi.tcnt s.data.toList 0 = none) : unpackP s = none := by unfold unpackP unpackT; rw [h]
theorem finU_step {s : ByteArray} {done : List PP} {r k j1 j2 : Nat} {a b : ByteArray} (h1 : Wi.ttext s.data.toList k = some (a.data.toList, j1)) (h2 : Wi.ttext s.data.toList j1 = some (b.data.toList, j2)) : finU s done (takeP s.data.toList (r + 1) k) = finU s (done ++ [⟨a, b, false⟩]) (takeP s.data.toList r j2) := by
  simp only [takeP, h1, h2, str_data]
  cases takeP s.data.toList r j2 with
  | none => rfl
  | some q => obtain ⟨l, k'⟩ := q; simp [finU]
theorem finU_bad1 {s : ByteArray} {done : List PP} {r k : Nat} (h1 : Wi.ttext s.data.toList k = none) : finU s done (takeP s.data.toList (r + 1) k) = none := by simp only [takeP, h1, finU]
theorem finU_bad2 {s : ByteArray} {done : List PP} {r k j1 : Nat} {a : List UInt8} (h1 : Wi.ttext s.data.toList k = some (a, j1)) (h2 : Wi.ttext s.data.toList j1 = none) : finU s done (takeP s.data.toList (r + 1) k) = none := by simp only [takeP, h1, h2, finU]
theorem finU_end {s : ByteArray} {done : List PP} {k : Nat} : finU s done (takeP s.data.toList 0 k) = if k = s.size ∧ packX done = 0 then some done else none := by simp [takeP, finU]
end Go.Proofs.YtfnpeiikjiffeaaGreat
