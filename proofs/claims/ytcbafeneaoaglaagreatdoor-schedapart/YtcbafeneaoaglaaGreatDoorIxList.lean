/- Contracts of Direct, Copath and Common of package index. -/
import Derived.Test.YtcbafeneaoaglaaGreatDoorBaQ
namespace Go.Proofs.YtcbafeneaoaglaaGreatDoor
open Go.RowKit

/-- The nodes above, with so many steps at most. -/
def dirF : Nat → Int → Int → List Int
  | 0, _, _ => []
  | f + 1, x, L => if parB x L = true then abv x :: dirF f (abv x) L else []
def copF : Nat → Int → Int → List Int
  | 0, _, _ => []
  | f + 1, x, L => if parB x L = true then sb x :: copF f (abv x) L else []
def dir (x L : Int) : List Int := dirF 31 x L
def cop (x L : Int) : List Int := copF 31 x L

/-- So many steps are left, and are enough. -/
def Room (f : Nat) (x L : Int) : Prop := parB x L = true → ∃ k m : Nat, x = (nd k m : Nat) ∧ 31 ≤ k + f
theorem room_start (x L : Int) : Room 31 x L := fun h => by
  obtain ⟨d, k, m, _, _, e, _⟩ := parB_open h
  exact ⟨k, m, e, by omega⟩
theorem room_next {f : Nat} {x L : Int} (h : Room f x L) (hp : parB x L = true) : ∃ g, f = g + 1 ∧ Room g (abv x) L ∧ lvl (abv x) = lvl x + 1 ∧ 0 ≤ lvl x ∧ lvl x < 30 ∧ abv x ≤ 2147483647 := by
  obtain ⟨d, k, m, hd, _, e, hk, hm, hb⟩ := parB_open hp
  obtain ⟨k', m', e', hf⟩ := h hp
  rw [e] at e'
  obtain ⟨rfl, rfl⟩ := nd_inj (Int.ofNat.inj e')
  have ha := abv_parent hd hk hm
  subst e
  rw [abv_nd (by omega), lvl_nd (by omega), lvl_nd (by omega)]
  refine ⟨f - 1, by omega, fun _ => ⟨k + 1, m / 2, rfl, by omega⟩, by omega, by omega, by omega, by omega⟩

def stepsLeft (p o : Value) : Nat := match o with
  | .bool true => (64 - lvl (intOf p)).toNat
  | _ => 0

theorem steps_down {y A L : Int} {g : Nat} (h : lvl A = lvl y + 1 ∧ 0 ≤ lvl y ∧ lvl y < 30) (hr : Room g A L) : stepsLeft (.int .i64 (parV A L)) (.bool (parB A L)) < stepsLeft (.int .i64 A) (.bool true) := by
  cases hp : parB A L
  · simp only [stepsLeft, intOf]; omega
  · obtain ⟨_, _, _, h1, _⟩ := room_next hr hp
    simp only [stepsLeft, intOf, parV, hp, if_true]; omega
theorem steps_down' {y A : Int} {o : Bool} (h : lvl A = lvl y + 1 ∧ 0 ≤ lvl y ∧ lvl y < 30) : stepsLeft (.int .i64 A) (.bool o) < stepsLeft (.int .i64 y) (.bool true) := by
  cases o
  · simp only [stepsLeft, intOf]; omega
  · simp only [stepsLeft, intOf]; omega
theorem copF_len (f : Nat) (x L : Int) : (copF f x L).length = (dirF f x L).length := by
  induction f generalizing x with
  | zero => rfl
  | succ f ih => unfold copF dirF; split <;> simp [ih]

/-- The nearest node that is a, or above it, and has b. -/
def comF : Nat → Int → Int → Int
  | 0, a, _ => a
  | f + 1, a, b => if wi b a = true then a else comF f (abv a) b
def com (a b L : Int) : Int := if inn a L = true ∧ inn b L = true then comF 31 a b else -1

theorem inn_open {x L : Int} (h : inn x L = true) : ∃ d k m : Nat, d ≤ 30 ∧ L = ((2 ^ d : Nat) : Int) ∧ x = (nd k m : Nat) ∧ k ≤ d ∧ m < 2 ^ (d - k) ∧ nd k m < 2147483647 := by
  have ht : isT L = true := by unfold inn at h; cases h : isT L <;> simp_all
  have h0 : 0 ≤ x := by simp [inn] at h; omega
  obtain ⟨d, hd, rfl⟩ := isT_iff.1 ht
  obtain ⟨n, rfl⟩ : ∃ n : Nat, x = n := ⟨x.toNat, by omega⟩
  obtain ⟨k, m, rfl⟩ := exists_nd n
  obtain ⟨h1, h2⟩ := (inn_nd hd).1 h
  exact ⟨d, k, m, hd, rfl, rfl, h1, h2, nd_small hd h1 h2⟩
/-- All nodes are below the root. -/
theorem wi_root {b L : Int} (hb : inn b L = true) : wi b (L - 1) = true := by
  obtain ⟨d, k, m, hd, rfl, rfl, hk, hm, hl⟩ := inn_open hb
  rw [root_nd, wi_iff (by have := nd_small hd (Nat.le_refl d) (show 0 < 2 ^ (d - d) by simp); omega)]
  simp only [inn, Bool.and_eq_true, decide_eq_true_eq] at hb
  rw [Nat.pow_succ]
  generalize 2 ^ d = D at *
  omega
theorem par_of_not_wi {a b L : Int} (ha : inn a L = true) (hb : inn b L = true) (h : wi b a = false) : parB a L = true := by
  unfold parB
  rw [ha, Bool.true_and, decide_eq_true_eq]
  rintro rfl
  rw [wi_root hb] at h
  cases h
theorem inn_abv {x L : Int} (h : parB x L = true) : inn (abv x) L = true := by
  obtain ⟨d, k, m, hd, rfl, rfl, hk, hm, hl⟩ := parB_open h
  rw [abv_nd (by omega), inn_nd hd]
  exact ⟨by omega, (abv_parent hd hk hm).2⟩

end Go.Proofs.YtcbafeneaoaglaaGreatDoor
