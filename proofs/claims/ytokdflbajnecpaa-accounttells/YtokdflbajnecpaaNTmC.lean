/- Contracts of untold and Dag of package term. -/
import Derived.Test.YtokdflbajnecpaaNTmB
namespace Go.Proofs.Ytokdflbajnecpaa.Tn
open Go.RowKit Go.Maps

/-- The first part of a term that has no place yet, or 0. -/
def unt (o : List Nat) (a b : Nat) : Nat := if a ≠ 0 ∧ a ∉ o then a else if b ≠ 0 ∧ b ∉ o then b else 0
theorem pos_zero {o : List Nat} {k : Nat} : pos o k = 0 ↔ k ∉ o := by
  unfold pos; split <;> simp_all

theorem ret_i {k : IntKind} {a b : Int} (h : a = b) : Ending.returned (.int k a) = .returned (.int k b) := by rw [h]

end Go.Proofs.Ytokdflbajnecpaa.Tn
