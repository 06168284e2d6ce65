/- Contracts of the document's own answers for layer 2: children and leaves. -/
import Derived.Test.YtjjkhjiiakamaaaDoorIxRef
namespace Go.Proofs.YtjjkhjiiakamaaaDoor
open Go.RowKit

theorem hf_cases (x : Int) (h2 : x ≤ 9223372036854775807) : (lvl x ≤ 0 ∧ hf x = 0) ∨ (∃ k m : Nat, x = (nd (k + 1) m : Nat) ∧ nd (k + 1) m < 9223372036854775808 ∧ 0 < lvl x ∧ hf x = ((2 ^ k : Nat) : Int) ∧ lvl x = ((k + 1 : Nat) : Int)) := by
  rcases lvl_cases x h2 with ⟨h, hl⟩ | ⟨m, rfl, hb, hl⟩ | ⟨k, m, rfl, hb, hl⟩
  · exact Or.inl ⟨by omega, if_neg (by omega)⟩
  · exact Or.inl ⟨by omega, if_neg (by omega)⟩
  · exact Or.inr ⟨k, m, rfl, hb, by omega, by unfold hf; rw [if_pos (by rw [hl]; omega), hl, Int.toNat_natCast, Nat.add_sub_cancel], hl⟩

theorem span_arith (X p q : Nat) (hX : X = 4 * q + 2 * p - 1) (hpos : 0 < p) (hs : X + 2 * p < 9223372036854775808) :
    ((p * 2 - 1 : Nat) : Int) = 2 * (p : Int) - 1 ∧ ((X : Int) + (2 * (p : Int) - 1)) / 2 = (X : Int) / 2 + (p : Int) ∧ wrap64 (2 * (p : Int)) = 2 * (p : Int) ∧ wrap64 (2 * (p : Int) - 1) = 2 * (p : Int) - 1 ∧
    wrap64 ((X : Int) - (2 * (p : Int) - 1)) = (X : Int) - (2 * (p : Int) - 1) ∧ ((2 * (p : Int)) == 0) = false ∧ Int.tdiv ((X : Int) - (2 * (p : Int) - 1)) 2 = ((X : Int) - (2 * (p : Int) - 1)) / 2 ∧ Int.tdiv (X : Int) 2 = (X : Int) / 2 ∧
    Int.tdiv (2 * (p : Int)) 2 = (p : Int) ∧ (2 * (p : Int)) / 2 = (p : Int) ∧ wrap64 (((X : Int) - (2 * (p : Int) - 1)) / 2) = ((X : Int) - (2 * (p : Int) - 1)) / 2 ∧ wrap64 ((X : Int) / 2) = (X : Int) / 2 ∧
    wrap64 ((X : Int) / 2 + (p : Int)) = (X : Int) / 2 + (p : Int) ∧ wrap64 (p : Int) = (p : Int) := by
  have h1 : (X : Int) = 2 * (2 * (q : Int) + (p : Int) - 1) + 1 := by omega
  have h2 : (X : Int) / 2 = 2 * (q : Int) + (p : Int) - 1 := by rw [h1]; omega
  have h3 : (X : Int) - (2 * (p : Int) - 1) = 2 * (2 * (q : Int)) := by omega
  have h4 : (2 * (2 * (q : Int))) / 2 = 2 * (q : Int) := by omega
  have h5 : (X : Int) + (2 * (p : Int) - 1) = 2 * (2 * (q : Int) + 2 * (p : Int) - 1) := by omega
  have h6 : (2 * (2 * (q : Int) + 2 * (p : Int) - 1)) / 2 = 2 * (q : Int) + 2 * (p : Int) - 1 := by omega
  have b1 : 0 ≤ (q : Int) := by omega
  have b2 : 0 < (p : Int) := by omega
  have b3 : 4 * (q : Int) + 4 * (p : Int) ≤ 9223372036854775808 := by omega
  clear hX hs hpos h1
  rw [h2, h3, h4, h5, h6]
  generalize (q : Int) = Q at *
  refine ⟨by omega, by omega, wrap64_id (by omega) (by omega), wrap64_id (by omega) (by omega), wrap64_id (by omega) (by omega), by rw [beq_eq_false_iff_ne]; omega, by rw [Int.tdiv_eq_ediv_of_nonneg (by omega)]; omega, by rw [Int.tdiv_eq_ediv_of_nonneg (by omega)]; exact h2, by rw [Int.tdiv_eq_ediv_of_nonneg (by omega)]; omega, by omega, wrap64_id (by omega) (by omega), wrap64_id (by omega) (by omega), wrap64_id (by omega) (by omega), wrap64_id (by omega) (by omega)⟩

end Go.Proofs.YtjjkhjiiakamaaaDoor
