/- Plain mathematics of a node and its children. -/
import Derived.Test.YtcbafeneaoaglaaGreatDoorBaQ
namespace Go.Proofs.YtcbafeneaoaglaaGreatDoor
open Go.RowKit

/-- All of a node and its children that the law asks. -/
theorem family {k m d : Nat} (hd : d ≤ 30) (hk : k + 1 ≤ d) (hm : m < 2 ^ (d - (k + 1))) :
    let X : Int := (nd (k + 1) m : Nat); let L : Int := ((2 ^ d : Nat) : Int); let l : Int := (nd k (2 * m) : Nat); let r : Int := (nd k (2 * m + 1) : Nat)
    lfV X = l ∧ rtV X = r ∧ lfB X = true ∧ rtB X = true ∧ parB l L = true ∧ parB r L = true ∧ parV l L = X ∧ parV r L = X ∧ sibV l L = r ∧ sibV r L = l ∧
    lvl X = ((k + 1 : Nat) : Int) ∧ lvl l = (k : Nat) ∧ lvl r = (k : Nat) ∧ spF X = spF l ∧ spT l + 1 = spF r ∧ spT r = spT X ∧ wi l X = true ∧ wi r X = true ∧ wi X l = false ∧ 0 ≤ spT l ∧ spT l < 2147483647 ∧ nd (k + 1) m < 2147483647 ∧ nd k (2 * m) < 2147483647 ∧ nd k (2 * m + 1) < 2147483647 := by
  intro X L l r
  have hmm : m * 2 + 1 < 2 ^ (d - k) := by
    obtain ⟨c, hc⟩ : ∃ c, d - k = c + 1 := ⟨d - k - 1, by omega⟩
    have : d - (k + 1) = c := by omega
    rw [this] at hm
    rw [hc, Nat.pow_succ]; omega
  have hl2 : 2 * m < 2 ^ (d - k) := by omega
  have hr2 : 2 * m + 1 < 2 ^ (d - k) := by omega
  have bX := nd_small hd hk hm
  have bl := nd_small hd (show k ≤ d by omega) hl2
  have br := nd_small hd (show k ≤ d by omega) hr2
  have lX : lvl X = ((k + 1 : Nat) : Int) := lvl_nd (by omega)
  have ll : lvl l = (k : Nat) := lvl_nd (by omega)
  have lr : lvl r = (k : Nat) := lvl_nd (by omega)
  have eX := nd_mul (k + 1) m
  have el := nd_mul k (2 * m)
  have er := nd_mul k (2 * m + 1)
  have hp := Nat.two_pow_pos k
  have p1 : 2 ^ (k + 1) = 2 * 2 ^ k := by rw [Nat.pow_succ]; omega
  have p2 : 2 ^ (k + 1 + 1) = 4 * 2 ^ k := by rw [Nat.pow_succ, p1]; omega
  have q1 : 2 ^ (k + 1 + 1) * m = 4 * (2 ^ k * m) := by rw [p2, Nat.mul_assoc]
  have q2 : 2 ^ (k + 1) * (2 * m) = 4 * (2 ^ k * m) := by rw [p1, Nat.mul_mul_mul_comm]
  have q3 : 2 ^ (k + 1) * (2 * m + 1) = 4 * (2 ^ k * m) + 2 * 2 ^ k := by rw [Nat.mul_add, q2, Nat.mul_one, p1]
  have hX0 : 0 < lvl X := by rw [lX]; omega
  have hXm : X ≠ 9223372036854775807 := by show ((nd (k + 1) m : Nat) : Int) ≠ _; omega
  have hhf : hf X = ((2 ^ k : Nat) : Int) := by unfold hf; rw [if_pos hX0, lX, Int.toNat_natCast, Nat.add_sub_cancel]
  have vl : lfV X = l := by
    unfold lfV; rw [if_pos hX0, hhf]
    show ((nd (k + 1) m : Nat) : Int) - _ = ((nd k (2 * m) : Nat) : Int)
    rw [eX, el, q1, q2, p1]
    generalize 2 ^ k * m = A; generalize 2 ^ k = p at *; omega
  have vr : rtV X = r := by
    unfold rtV; rw [if_pos ⟨hX0, hXm⟩, hhf]
    show ((nd (k + 1) m : Nat) : Int) + _ = ((nd k (2 * m + 1) : Nat) : Int)
    rw [eX, er, q1, q3, p1]
    generalize 2 ^ k * m = A; generalize 2 ^ k = p at *; omega
  have al : abv l = X := by show abv ((nd k (2 * m) : Nat) : Int) = _; rw [abv_nd (by omega)]; congr 2; omega
  have ar : abv r = X := by show abv ((nd k (2 * m + 1) : Nat) : Int) = _; rw [abv_nd (by omega)]; congr 2; omega
  have hlX : l < X := by
    show ((nd k (2 * m) : Nat) : Int) < ((nd (k + 1) m : Nat) : Int)
    rw [eX, el, q1, q2, p1]
    generalize 2 ^ k * m = A; generalize 2 ^ k = p at *; omega
  have hrX : ¬ r < X := by
    show ¬ ((nd k (2 * m + 1) : Nat) : Int) < ((nd (k + 1) m : Nat) : Int)
    rw [eX, er, q1, q3, p1]
    generalize 2 ^ k * m = A; generalize 2 ^ k = p at *; omega
  have pl : parB l L = true := (parB_nd hd).2 ⟨by omega, hl2⟩
  have pr : parB r L = true := (parB_nd hd).2 ⟨by omega, hr2⟩
  have s0 : ∀ n : Nat, n < 2147483647 → ¬ (((n : Nat) : Int) < 0 ∨ ((n : Nat) : Int) = 9223372036854775807) := fun n hn => by omega
  have sX := s0 _ bX
  have sl := s0 _ bl
  have sr := s0 _ br
  refine ⟨vl, vr, decide_eq_true hX0, decide_eq_true ⟨hX0, hXm⟩, pl, pr, ?_, ?_, ?_, ?_, lX, ll, lr, ?_, ?_, ?_, ?_, ?_, ?_, ?_, ?_, bX, bl, br⟩
  · simp [parV, pl, al]
  · simp [parV, pr, ar]
  · simp only [sibV, pl, if_true, sb, al, hlX, vr]
  · simp only [sibV, pr, if_true, sb, ar, hrX, if_false, vl]
  · unfold spF; rw [if_neg sX, if_neg sl, lX, ll, Int.toNat_natCast, Int.toNat_natCast]
    show (((nd (k + 1) m : Nat) : Int) - _) / 2 = (((nd k (2 * m) : Nat) : Int) - _) / 2
    rw [eX, el, q1, q2, p1]
    generalize 2 ^ k * m = A; generalize 2 ^ k = p at *; omega
  · unfold spF spT; rw [if_neg sl, if_neg sr, ll, lr, Int.toNat_natCast]
    show (((nd k (2 * m) : Nat) : Int) + _) / 2 + 1 = (((nd k (2 * m + 1) : Nat) : Int) - _) / 2
    rw [el, er, q2, q3]
    generalize 2 ^ k * m = A; generalize 2 ^ k = p at *; omega
  · unfold spT; rw [if_neg sX, if_neg sr, lX, lr, Int.toNat_natCast, Int.toNat_natCast]
    show (((nd k (2 * m + 1) : Nat) : Int) + _) / 2 = (((nd (k + 1) m : Nat) : Int) + _) / 2
    rw [eX, er, q1, q3, p1]
    generalize 2 ^ k * m = A; generalize 2 ^ k = p at *; omega
  · refine (wi_iff (by omega)).2 ?_
    rw [el, q1, q2, p2]
    generalize 2 ^ k * m = A; generalize 2 ^ k = p at *; omega
  · refine (wi_iff (by omega)).2 ?_
    rw [er, q1, q3, p2]
    generalize 2 ^ k * m = A; generalize 2 ^ k = p at *; omega
  · cases e : wi X l
    · rfl
    · have := (wi_iff (by omega)).1 e
      rw [eX, q1, q2, p1] at this
      generalize 2 ^ k * m = A at *; generalize 2 ^ k = p at *; omega
  · unfold spT; rw [if_neg sl, ll, Int.toNat_natCast]
    generalize 2 ^ k = p at *; omega
  · unfold spT; rw [if_neg sl, ll, Int.toNat_natCast]
    rw [q2] at el
    rw [q3] at er
    generalize 2 ^ k * m = A at *; generalize 2 ^ k = p at *; omega

end Go.Proofs.YtcbafeneaoaglaaGreatDoor
