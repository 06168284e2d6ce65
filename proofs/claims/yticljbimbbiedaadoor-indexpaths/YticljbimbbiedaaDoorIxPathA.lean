/- Plain mathematics of the rows of nodes above two nodes. -/
import Derived.Test.YticljbimbbiedaaDoorIxList
namespace Go.Proofs.YticljbimbbiedaaDoor
open Go.RowKit

theorem wi_nd {k m j q : Nat} (hb : nd j q < 9223372036854775808) : wi (nd k m : Nat) (nd j q : Nat) = true ↔ k ≤ j ∧ m / 2 ^ (j - k) = q := by
  rw [wi_shift hb, nd_div]
  constructor
  · rintro ⟨h1, h2⟩
    refine ⟨h1, ?_⟩
    have e : j + 1 = (k + 1) + (j - k) := by omega
    rw [e, Nat.pow_add, ← Nat.div_div_eq_div_mul, nd_div] at h2
    exact h2
  · rintro ⟨h1, h2⟩
    refine ⟨h1, ?_⟩
    have e : j + 1 = (k + 1) + (j - k) := by omega
    rw [e, Nat.pow_add, ← Nat.div_div_eq_div_mul, nd_div]
    exact h2

theorem inn_node {k m L : Nat} (h : inn (nd k m : Nat) (L : Int) = true) : nd k m < 2147483647 := by
  obtain ⟨d, k', m', hd, _, e, _, _, hb⟩ := inn_open h
  have : nd k m = nd k' m' := Int.ofNat.inj e
  omega

theorem wi_refl {x L : Int} (h : inn x L = true) : wi x x = true := by
  obtain ⟨d, k, m, hd, rfl, rfl, hk, hm, hb⟩ := inn_open h
  rw [wi_nd (by omega)]
  simp
theorem wi_abv {x L : Int} (h : parB x L = true) : wi x (abv x) = true := by
  obtain ⟨d, k, m, hd, rfl, rfl, hk, hm, hb⟩ := parB_open h
  have := (abv_parent hd hk hm).1
  rw [abv_nd (by omega), wi_nd (by omega)]
  have e : k + 1 - k = 1 := by omega
  rw [e]
  exact ⟨by omega, rfl⟩
theorem wi_tr {x y z L : Int} (hx : inn x L = true) (hy : inn y L = true) (hz : inn z L = true) (h1 : wi x y = true) (h2 : wi y z = true) : wi x z = true := by
  obtain ⟨d, k, m, hd, rfl, rfl, hk, hm, hb⟩ := inn_open hx
  obtain ⟨d1, k1, m1, hd1, _, rfl, hk1, hm1, hb1⟩ := inn_open hy
  obtain ⟨d2, k2, m2, hd2, _, rfl, hk2, hm2, hb2⟩ := inn_open hz
  rw [wi_nd (by omega)] at h1 h2 ⊢
  obtain ⟨a1, a2⟩ := h1
  obtain ⟨c1, c2⟩ := h2
  refine ⟨by omega, ?_⟩
  rw [← c2, ← a2, Nat.div_div_eq_div_mul, ← Nat.pow_add]
  congr 2
  omega

theorem dirF_inn {L : Int} : ∀ (f : Nat) (x : Int), ∀ z ∈ dirF f x L, inn z L = true := by
  intro f
  induction f with
  | zero => intro x z hz; simp [dirF] at hz
  | succ f ih =>
    intro x z hz
    unfold dirF at hz
    split at hz
    · rename_i hp
      rcases List.mem_cons.1 hz with h | h
      · rw [h]; exact inn_abv hp
      · exact ih _ z h
    · cases hz
theorem par_inn {x L : Int} (h : parB x L = true) : inn x L = true := by
  unfold parB at h; rw [Bool.and_eq_true] at h; exact h.1
/-- A node is below each node of its row. -/
theorem row_wi {L : Int} : ∀ (f : Nat) (x : Int), inn x L = true → ∀ z ∈ x :: dirF f x L, wi x z = true := by
  intro f
  induction f with
  | zero =>
    intro x hx z hz
    simp [dirF] at hz
    subst hz; exact wi_refl hx
  | succ f ih =>
    intro x hx z hz
    rcases List.mem_cons.1 hz with h | h
    · subst h; exact wi_refl hx
    · unfold dirF at h
      split at h
      · rename_i hp
        have hz2 : inn z L = true := by
          rcases List.mem_cons.1 h with h | h
          · rw [h]; exact inn_abv hp
          · exact dirF_inn _ _ z h
        exact wi_tr hx (inn_abv hp) hz2 (wi_abv hp) (ih (abv x) (inn_abv hp) z h)
      · cases h
/-- Who has a node below it stands in the node's row. -/
theorem row_mem {L : Int} : ∀ (f : Nat) (x c : Int), inn x L = true → Room f x L → inn c L = true → wi x c = true → c ∈ x :: dirF f x L := by
  intro f
  induction f with
  | zero =>
    intro x c hx hr hc hw
    obtain ⟨d, k, m, hd, rfl, rfl, hk, hm, hb⟩ := inn_open hx
    obtain ⟨d1, j, q, hd1, hL, rfl, hj, hq, hb1⟩ := inn_open hc
    rw [wi_nd (by omega)] at hw
    by_cases he : k = j
    · subst he
      obtain ⟨_, rfl⟩ := hw
      simp
    · have hdd : d1 = d := by
        have h1 : 2 ^ d = 2 ^ d1 := Int.ofNat.inj hL
        exact (nd_inj (show nd d1 0 = nd d 0 by unfold nd; rw [h1])).1
      have hp := (parB_nd hd).2 ⟨show k < d by omega, hm⟩
      obtain ⟨k', m', e, h⟩ := hr hp
      obtain ⟨rfl, rfl⟩ := nd_inj (Int.ofNat.inj e)
      omega
  | succ f ih =>
    intro x c hx hr hc hw
    have hx0 := hx
    obtain ⟨d, k, m, hd, rfl, rfl, hk, hm, hb⟩ := inn_open hx
    obtain ⟨d1, j, q, hd1, hL, rfl, hj, hq, hb1⟩ := inn_open hc
    have hw2 := hw
    rw [wi_nd (by omega)] at hw
    by_cases he : k = j
    · subst he
      obtain ⟨_, h⟩ := hw
      simp at h
      subst h
      simp
    · have hdd : d1 = d := by
        have h1 : 2 ^ d = 2 ^ d1 := Int.ofNat.inj hL
        exact (nd_inj (show nd d1 0 = nd d 0 by unfold nd; rw [h1])).1
      have hp := (parB_nd hd).2 ⟨show k < d by omega, hm⟩
      obtain ⟨g, hg, hr', _⟩ := room_next hr hp
      obtain rfl : f = g := by omega
      have hw3 : wi (abv (nd k m : Nat)) (nd j q : Nat) = true := by
        rw [abv_nd (by omega), wi_nd (by omega)]
        refine ⟨by omega, ?_⟩
        rw [← hw.2, Nat.div_div_eq_div_mul]
        congr 1
        have e : j - k = j - (k + 1) + 1 := by omega
        rw [e, Nat.pow_succ, Nat.mul_comm]
      have := ih _ _ (inn_abv hp) hr' hc hw3
      unfold dirF
      rw [if_pos hp]
      exact List.mem_cons_of_mem _ this

/-- Enough is enough. -/
theorem dirF_room {L : Int} : ∀ (f g : Nat) (x : Int), Room f x L → Room g x L → dirF f x L = dirF g x L := by
  intro f
  induction f with
  | zero =>
    intro g x hf hg
    cases hp : parB x L
    · cases g <;> simp [dirF, hp]
    · obtain ⟨k, m, e, h⟩ := hf hp
      obtain ⟨d, k2, m2, hd, _, e', hk2, _⟩ := parB_open hp
      rw [e] at e'
      obtain ⟨rfl, rfl⟩ := nd_inj (Int.ofNat.inj e')
      omega
  | succ f ih =>
    intro g x hf hg
    cases hp : parB x L
    · cases g <;> simp [dirF, hp]
    · obtain ⟨f', hf', hr, _⟩ := room_next hf hp
      obtain ⟨g', rfl, hr2, _⟩ := room_next hg hp
      obtain rfl : f = f' := by omega
      unfold dirF
      rw [if_pos hp, if_pos hp, ih g' (abv x) hr hr2]
/-- From a node of a row on it is that node's own row. -/
theorem row_drop {L : Int} : ∀ (f : Nat) (x c : Int) (i : Nat), Room f x L → (x :: dirF f x L)[i]? = some c → (x :: dirF f x L).drop i = c :: dirF 31 c L := by
  intro f
  induction f with
  | zero =>
    intro x c i hr hi
    cases i with
    | zero => simp at hi; subst hi; rw [dirF_room 0 31 x hr (room_start x L)]; rfl
    | succ i => simp [dirF] at hi
  | succ f ih =>
    intro x c i hr hi
    cases i with
    | zero => simp at hi; subst hi; rw [dirF_room (f + 1) 31 x hr (room_start x L)]; rfl
    | succ i =>
      cases hp : parB x L
      · simp [dirF, hp] at hi
      · obtain ⟨g, hg, hr', _⟩ := room_next hr hp
        obtain rfl : f = g := by omega
        have e : dirF (f + 1) x L = abv x :: dirF f (abv x) L := by simp [dirF, hp]
        rw [e] at hi ⊢
        simp only [List.drop_succ_cons]
        exact ih (abv x) c i hr' (by simpa using hi)
/-- The levels rise one by one. -/
theorem row_step {L : Int} : ∀ (f : Nat) (x : Int) (i : Nat) (u v : Int), Room f x L → (x :: dirF f x L)[i]? = some u → (x :: dirF f x L)[i + 1]? = some v → lvl v = lvl u + 1 ∧ 0 ≤ lvl u ∧ lvl u < 30 := by
  intro f
  induction f with
  | zero => intro x i u v hr h1 h2; simp [dirF] at h2
  | succ f ih =>
    intro x i u v hr h1 h2
    cases hp : parB x L
    · simp [dirF, hp] at h2
    · obtain ⟨g, hg, hr', hl1, hl2, hl3, _⟩ := room_next hr hp
      obtain rfl : f = g := by omega
      have e : dirF (f + 1) x L = abv x :: dirF f (abv x) L := by simp [dirF, hp]
      rw [e] at h1 h2
      cases i with
      | zero => simp at h1 h2; subst h1; subst h2; exact ⟨hl1, hl2, hl3⟩
      | succ i => exact ih (abv x) i u v hr' (by simpa using h1) (by simpa using h2)
/-- The row ends with the root. -/
theorem row_last {L : Int} : ∀ (f : Nat) (x : Int), inn x L = true → Room f x L → (x :: dirF f x L)[(dirF f x L).length]? = some (L - 1) := by
  intro f
  induction f with
  | zero =>
    intro x hx hr
    cases hp : parB x L
    · rcases parB_cases x L with ⟨e1, _⟩ | ⟨_, e, _⟩ | ⟨_, _, e, _⟩
      · rw [hx] at e1; cases e1
      · simp [dirF, e]
      · rw [hp] at e; cases e
    · obtain ⟨k, m, e, h⟩ := hr hp
      obtain ⟨d, k2, m2, hd, _, e', hk2, _⟩ := parB_open hp
      rw [e] at e'
      obtain ⟨rfl, rfl⟩ := nd_inj (Int.ofNat.inj e')
      omega
  | succ f ih =>
    intro x hx hr
    cases hp : parB x L
    · rcases parB_cases x L with ⟨e1, _⟩ | ⟨_, e, _⟩ | ⟨_, _, e, _⟩
      · rw [hx] at e1; cases e1
      · have : dirF (f + 1) x L = [] := by simp [dirF, hp]
        rw [this, e]; rfl
      · rw [hp] at e; cases e
    · obtain ⟨g, hg, hr', _⟩ := room_next hr hp
      obtain rfl : f = g := by omega
      have e : dirF (f + 1) x L = abv x :: dirF f (abv x) L := by simp [dirF, hp]
      rw [e]
      have := ih (abv x) (inn_abv hp) hr'
      simpa using this

end Go.Proofs.YticljbimbbiedaaDoor
