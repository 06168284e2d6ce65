/- Contracts of the document's own answers for layer 2: who is below whom, and the rows of nodes above. -/
import Derived.Test.YticljbimbbiedaaDoorIxRefC
import Derived.Test.YticljbimbbiedaaDoorIxJoin
namespace Go.Proofs.YticljbimbbiedaaDoor
open Go.RowKit

theorem wi_max {x : Int} (h : 0 ≤ x) (h2 : x ≤ 9223372036854775807) : wi x 9223372036854775807 = true := by
  have hl : lvl 9223372036854775807 = ((63 : Nat) : Int) := by
    have := lvl_nd (k := 63) (m := 0) (by decide)
    exact this
  unfold wi
  rw [hl, Int.toNat_natCast]
  have e : ((2 ^ 63 : Nat) : Int) = 9223372036854775808 := by decide
  rw [e]
  simp only [Bool.and_eq_true, decide_eq_true_eq]
  omega

theorem dirF_len (f : Nat) (x L : Int) : (dirF f x L).length ≤ f := by
  induction f generalizing x with
  | zero => simp [dirF]
  | succ f ih => unfold dirF; split <;> simp; exact ih _

theorem dirF_le (f : Nat) (x L : Int) : ∀ z ∈ dirF f x L, z ≤ 9223372036854775807 := by
  induction f generalizing x with
  | zero => intro z hz; simp [dirF] at hz
  | succ f ih =>
    intro z hz
    unfold dirF at hz
    split at hz
    · rename_i hp
      rcases List.mem_cons.1 hz with h | h
      · obtain ⟨d, k, m, hd, _, rfl, hk, hm, hb⟩ := parB_open hp
        have := (abv_parent hd hk hm).1
        rw [h, abv_nd (by omega)]; omega
      · exact ih _ z h
    · cases hz

/-- The row from a up, in which the first that has b is what Common says. -/
theorem com_find (b L : Int) (hb : inn b L = true) : ∀ (f : Nat) (a : Int), inn a L = true → Room f a L → ∃ i : Nat, (a :: dirF f a L)[i]? = some (comF f a b) ∧ wi b (comF f a b) = true ∧ ∀ j z, j < i → (a :: dirF f a L)[j]? = some z → wi b z = false := by
  intro f
  induction f with
  | zero =>
    intro a ha hr
    cases hw : wi b a
    · obtain ⟨k, m, e, h⟩ := hr (par_of_not_wi ha hb hw)
      obtain ⟨d, k', m', hd, _, e', hk, _⟩ := parB_open (par_of_not_wi ha hb hw)
      rw [e] at e'
      obtain ⟨rfl, rfl⟩ := nd_inj (Int.ofNat.inj e')
      omega
    · exact ⟨0, rfl, hw, fun j _ hj => by omega⟩
  | succ f ih =>
    intro a ha hr
    cases hw : wi b a
    · have hp := par_of_not_wi ha hb hw
      obtain ⟨g, hg, hr', _⟩ := room_next hr hp
      obtain rfl : f = g := by omega
      obtain ⟨i, h1, h2, h3⟩ := ih (abv a) (inn_abv hp) hr'
      have ec : comF (f + 1) a b = comF f (abv a) b := by simp [comF, hw]
      have ed : dirF (f + 1) a L = abv a :: dirF f (abv a) L := by simp [dirF, hp]
      rw [ec, ed]
      refine ⟨i + 1, by simpa using h1, h2, fun j z hj hz => ?_⟩
      cases j with
      | zero => simp at hz; subst hz; exact hw
      | succ j => exact h3 j z (by omega) (by simpa using hz)
    · have ec : comF (f + 1) a b = a := by simp [comF, hw]
      rw [ec]
      exact ⟨0, rfl, hw, fun j _ hj => by omega⟩

end Go.Proofs.YticljbimbbiedaaDoor
