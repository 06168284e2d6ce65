/- Contracts of the document's own answers for layer 2: parents, siblings, and who is below whom. -/
import Derived.Test.YtjjkhjiiakamaaaDoorIxRefB
import Derived.Test.YtjjkhjiiakamaaaDoorIxKin
import Derived.Test.YtjjkhjiiakamaaaDoorIxList
namespace Go.Proofs.YtjjkhjiiakamaaaDoor
open Go.RowKit

/-- One step down from p = nd (i + 1) q to x = nd k m, that is below p and is not p. -/
theorem step_down {k m i q : Nat} (hb : nd (i + 1) q < 2147483647) (hk : k < i + 1) (hw : wi (nd k m : Nat) (nd (i + 1) q : Nat) = true) :
    (((nd k m : Nat) : Int) < (nd (i + 1) q : Nat) ∧ wi (nd k m : Nat) (nd i (2 * q) : Nat) = true) ∨ (¬ ((nd k m : Nat) : Int) < (nd (i + 1) q : Nat) ∧ wi (nd k m : Nat) (nd i (2 * q + 1) : Nat) = true) := by
  have hne : nd k m ≠ nd (i + 1) q := fun c => by have := nd_inj c; omega
  have hp := Nat.two_pow_pos i
  have eX := nd_mul (i + 1) q
  have el := nd_mul i (2 * q)
  have er := nd_mul i (2 * q + 1)
  have p1 : 2 ^ (i + 1) = 2 * 2 ^ i := by rw [Nat.pow_succ]; omega
  have p2 : 2 ^ (i + 1 + 1) = 4 * 2 ^ i := by rw [Nat.pow_succ, p1]; omega
  have q1 : 2 ^ (i + 1 + 1) * q = 4 * (2 ^ i * q) := by rw [p2, Nat.mul_assoc]
  have q2 : 2 ^ (i + 1) * (2 * q) = 4 * (2 ^ i * q) := by rw [p1, Nat.mul_mul_mul_comm]
  have q3 : 2 ^ (i + 1) * (2 * q + 1) = 4 * (2 ^ i * q) + 2 * 2 ^ i := by rw [Nat.mul_add, q2, Nat.mul_one, p1]
  rw [wi_iff (by omega), q1, p2] at hw
  rw [q1, p1] at eX
  rw [q2] at el
  rw [q3] at er
  have hl : nd i (2 * q) < 9223372036854775808 := by generalize 2 ^ i * q = A at *; generalize 2 ^ i = p at *; omega
  have hr : nd i (2 * q + 1) < 9223372036854775808 := by generalize 2 ^ i * q = A at *; generalize 2 ^ i = p at *; omega
  rw [wi_iff hl, wi_iff hr, q2, q3, p1]
  generalize 2 ^ i * q = A at *
  generalize 2 ^ i = p at *
  generalize nd k m = X at *
  generalize nd (i + 1) q = Z at *
  clear el er q1 q2 q3 p1 p2 hl hr
  omega
theorem wi_same {k m q : Nat} (hb : nd k q < 9223372036854775808) (h : wi (nd k m : Nat) (nd k q : Nat) = true) : m = q := by
  have := ((wi_shift hb).1 h).2
  rw [nd_div, nd_div] at this
  exact this

end Go.Proofs.YtjjkhjiiakamaaaDoor
