/- Contracts of the document's own answers for layer 2, those of one number. -/
import Derived.Test.YticljbimbbiedaaDoorIxMem
namespace Go.Proofs.YticljbimbbiedaaDoor
open Go.RowKit

theorem nd_zero (m : Nat) : nd 0 m = 2 * m := by simp [nd]
theorem nd_odd (k m : Nat) : nd (k + 1) m = 2 * nd k m + 1 := by
  have h1 := nd_succ (k + 1) m
  have h2 := nd_succ k m
  rw [Nat.pow_succ, Nat.mul_comm (2 ^ k) 2, Nat.mul_assoc] at h1
  omega

end Go.Proofs.YticljbimbbiedaaDoor
