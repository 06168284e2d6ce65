/- The leaves below a node and below those beside its way up: each leaf once. And a row of counters in memory. -/
import Derived.Test.YtkamcjmimfjnkaaDoorIxKin
import Derived.Test.YtkamcjmimfjnkaaDoorIxList
namespace Go.Proofs.YtkamcjmimfjnkaaDoor
open Go.RowKit

theorem dirF_le31 (f : Nat) (x L : Int) : (dirF f x L).length ≤ f := by
  induction f generalizing x with
  | zero => simp [dirF]
  | succ f ih => unfold dirF; split <;> simp; exact ih _

def cov (z : Int) (k : Nat) : Int := if spF z ≤ (k : Int) ∧ (k : Int) ≤ spT z then 1 else 0
def cnt (l : List Int) (k : Nat) : Int := (l.map (cov · k)).sum
theorem cnt_nil (k : Nat) : cnt [] k = 0 := rfl
theorem cnt_cons (z : Int) (l : List Int) (k : Nat) : cnt (z :: l) k = cov z k + cnt l k := by simp [cnt]
theorem cnt_snoc (l : List Int) (z : Int) (k : Nat) : cnt (l ++ [z]) k = cnt l k + cov z k := by simp [cnt]
theorem cov_bounds (z : Int) (k : Nat) : 0 ≤ cov z k ∧ cov z k ≤ 1 := by unfold cov; split <;> omega
theorem cnt_bounds (l : List Int) (k : Nat) : 0 ≤ cnt l k ∧ cnt l k ≤ l.length := by
  induction l with
  | nil => simp [cnt]
  | cons z l ih => rw [cnt_cons]; have := cov_bounds z k; simp only [List.length_cons]; omega

theorem span_nd {k m : Nat} (h : nd k m < 2147483647) : spF (nd k m : Nat) = ((2 ^ k * m : Nat) : Int) ∧ spT (nd k m : Nat) = ((2 ^ k * m : Nat) : Int) + ((2 ^ k : Nat) : Int) - 1 := by
  have hl : lvl (nd k m : Nat) = (k : Nat) := lvl_nd (by omega)
  have s0 : ¬ (((nd k m : Nat) : Int) < 0 ∨ ((nd k m : Nat) : Int) = 9223372036854775807) := by omega
  have e := nd_eq k m
  have hp := Nat.two_pow_pos k
  unfold spF spT
  rw [if_neg s0, if_neg s0, hl, Int.toNat_natCast]
  generalize 2 ^ k * m = A at *
  generalize 2 ^ k = p at *
  omega
/-- The leaves below a node of a tree are leaves of the tree. -/
theorem span_inn {z L : Int} (h : inn z L = true) : 0 ≤ spF z ∧ spF z ≤ spT z ∧ spT z < L := by
  obtain ⟨d, k, m, hd, rfl, rfl, hk, hm, hb⟩ := inn_open h
  obtain ⟨h1, h2⟩ := span_nd hb
  rw [h1, h2]
  have hp := Nat.two_pow_pos k
  have hle : 2 ^ k * m + 2 ^ k ≤ 2 ^ d := by
    obtain ⟨c, rfl⟩ : ∃ c, d = k + c := ⟨d - k, by omega⟩
    have e : k + c - k = c := by omega
    rw [e] at hm
    rw [Nat.pow_add]
    have := Nat.mul_le_mul_left (2 ^ k) (show m + 1 ≤ 2 ^ c by omega)
    rw [Nat.mul_add, Nat.mul_one] at this
    exact this
  generalize 2 ^ k * m = A at *
  generalize 2 ^ k = p at *
  generalize 2 ^ d = D at *
  omega
/-- A node, the one beside it, and the one above them. -/
theorem span_kin {x L : Int} (h : parB x L = true) : inn (sb x) L = true ∧ ((spF (abv x) = spF x ∧ spT x + 1 = spF (sb x) ∧ spT (sb x) = spT (abv x)) ∨ (spF (abv x) = spF (sb x) ∧ spT (sb x) + 1 = spF x ∧ spT x = spT (abv x))) := by
  obtain ⟨d, k, m, hd, rfl, rfl, hk, hm, hb⟩ := parB_open h
  have ha := abv_parent hd hk hm
  obtain ⟨f1, f2, f3, f4, f5, f6, f7, f8, f9, f10, f11, f12, f13, f14, f15, f16, _⟩ := family hd (show k + 1 ≤ d by omega) ha.2
  have i5 : inn (nd k (2 * (m / 2)) : Nat) ((2 ^ d : Nat) : Int) = true := by unfold parB at f5; rw [Bool.and_eq_true] at f5; exact f5.1
  have i6 : inn (nd k (2 * (m / 2) + 1) : Nat) ((2 ^ d : Nat) : Int) = true := by unfold parB at f6; rw [Bool.and_eq_true] at f6; exact f6.1
  have hsb : ∀ y : Int, parB y ((2 ^ d : Nat) : Int) = true → sibV y ((2 ^ d : Nat) : Int) = sb y := fun y hy => by unfold sibV; rw [if_pos hy]
  have hab : ∀ y : Int, parB y ((2 ^ d : Nat) : Int) = true → parV y ((2 ^ d : Nat) : Int) = abv y := fun y hy => by unfold parV; rw [if_pos hy]
  rcases Nat.mod_two_eq_zero_or_one m with hm2 | hm2
  · have e : m = 2 * (m / 2) := by omega
    have hx : nd k m = nd k (2 * (m / 2)) := by rw [← e]
    rw [hx]
    rw [← hsb _ f5, ← hab _ f5, f7, f9]
    exact ⟨i6, Or.inl ⟨f14, f15, f16⟩⟩
  · have e : m = 2 * (m / 2) + 1 := by omega
    have hx : nd k m = nd k (2 * (m / 2) + 1) := by rw [← e]
    rw [hx]
    rw [← hsb _ f6, ← hab _ f6, f8, f10]
    exact ⟨i5, Or.inr ⟨f14, f15, f16⟩⟩

theorem span_root {L : Int} (h : isT L = true) : spF (L - 1) = 0 ∧ spT (L - 1) = L - 1 := by
  obtain ⟨d, hd, rfl⟩ := isT_iff.1 h
  have hb := nd_small hd (Nat.le_refl d) (show 0 < 2 ^ (d - d) by simp)
  obtain ⟨h1, h2⟩ := span_nd hb
  rw [root_nd, h1, h2, ← root_nd]
  simp

theorem cnt_cop {L : Int} : ∀ (f : Nat) (x : Int), inn x L = true → Room f x L → ∀ k : Nat, (k : Int) < L → cnt (copF f x L) k = 1 - cov x k := by
  intro f
  induction f with
  | zero =>
    intro x hx hr k hk
    cases hp : parB x L
    · have he : x = L - 1 := by
        rcases parB_cases x L with ⟨e1, _⟩ | ⟨_, e, _⟩ | ⟨_, _, e, _⟩
        · rw [hx] at e1; cases e1
        · exact e
        · rw [hp] at e; cases e
      have ht : isT L = true := by unfold inn at hx; cases h : isT L <;> simp_all
      obtain ⟨h1, h2⟩ := span_root ht
      simp only [copF, cnt_nil, cov, he, h1, h2]
      rw [if_pos (by omega)]; omega
    · obtain ⟨k', m', e, h⟩ := hr hp
      obtain ⟨d, k2, m2, hd, _, e', hk2, _⟩ := parB_open hp
      rw [e] at e'
      obtain ⟨rfl, rfl⟩ := nd_inj (Int.ofNat.inj e')
      omega
  | succ f ih =>
    intro x hx hr k hk
    cases hp : parB x L
    · have he : x = L - 1 := by
        rcases parB_cases x L with ⟨e1, _⟩ | ⟨_, e, _⟩ | ⟨_, _, e, _⟩
        · rw [hx] at e1; cases e1
        · exact e
        · rw [hp] at e; cases e
      have ht : isT L = true := by unfold inn at hx; cases h : isT L <;> simp_all
      obtain ⟨h1, h2⟩ := span_root ht
      have ec : copF (f + 1) x L = [] := by simp [copF, hp]
      rw [ec, cnt_nil]
      simp only [cov, he, h1, h2]
      rw [if_pos (by omega)]; omega
    · obtain ⟨g, hg, hr', _⟩ := room_next hr hp
      obtain rfl : f = g := by omega
      have ec : copF (f + 1) x L = sb x :: copF f (abv x) L := by simp [copF, hp]
      rw [ec, cnt_cons, ih (abv x) (inn_abv hp) hr' k hk]
      obtain ⟨hs, hkin⟩ := span_kin hp
      have s1 := span_inn hx
      have s2 := span_inn hs
      unfold cov
      generalize spF x = a at *
      generalize spT x = b at *
      generalize spF (sb x) = c at *
      generalize spT (sb x) = e at *
      generalize spF (abv x) = u at *
      generalize spT (abv x) = v at *
      split <;> split <;> split <;> omega
theorem copF_inn {L : Int} : ∀ (f : Nat) (x : Int), ∀ z ∈ copF f x L, inn z L = true := by
  intro f
  induction f with
  | zero => intro x z hz; simp [copF] at hz
  | succ f ih =>
    intro x z hz
    unfold copF at hz
    split at hz
    · rename_i hp
      rcases List.mem_cons.1 hz with h | h
      · rw [h]; exact (span_kin hp).1
      · exact ih _ z h
    · cases hz
theorem covers {x L : Int} (hx : inn x L = true) (k : Nat) (hk : (k : Int) < L) : cnt (x :: cop x L) k = 1 := by
  rw [cnt_cons, cop, cnt_cop 31 x hx (room_start x L) k hk]; omega

/-- Counters in the block g. -/
def Met (g n : Nat) (w : World) (F : Nat → Int) : Prop := ∃ cs : Array Value, w.heap[g]? = some (.cells cs 3 (0, 0)) ∧ cs.size = n ∧ ∀ k, k < n → cs[k]? = some (.int .i64 (F k))
theorem made_met {w : World} {base g n : Nat} (h : w.ownsRow base 3 1 (.slice (some ⟨g, 0, none⟩) n n) n (madeCells (Value.int .i64 0).cells (n * 1)).toList) : Met g n w (fun _ => 0) := by
  rcases h.2 with ⟨h, _⟩ | ⟨g', cap, cur, hv, _, hg, h1, h2, h3, h4⟩
  · cases h
  · simp only [Value.slice.injEq, Option.some.injEq, Addr.mk.injEq] at hv
    obtain ⟨⟨rfl, _⟩, _, rfl⟩ := hv
    refine ⟨cur, hg, by omega, fun k hk => ?_⟩
    have e : cur.toList = (madeCells (Value.int .i64 0).cells (n * 1)).toList := by
      rw [← h4, List.take_of_length_le (by simp; omega)]
    have e2 : cur = madeCells (Value.int .i64 0).cells (n * 1) := Array.ext' e
    rw [e2]
    simp [madeCells, Value.cells, hk, Nat.mod_one]
theorem Met.cell {g n : Nat} {w : World} {F : Nat → Int} (h : Met g n w F) {k : Nat} (hk : k < n) : w.cell? ⟨g, k, none⟩ = some (.int .i64 (F k)) ∧ w.frozen? ⟨g, k, none⟩ = false := by
  obtain ⟨cs, h1, _, h3⟩ := h
  simp [World.cell?, World.frozen?, h1, h3 k hk]
theorem Met.store {g n : Nat} {w : World} {F : Nat → Int} (h : Met g n w F) {k : Nat} (hk : k < n) (c : Int) : Met g n (w.setCell ⟨g, k, none⟩ (.int .i64 c)) (fun j => if j = k then c else F j) := by
  obtain ⟨cs, h1, h2, h3⟩ := h
  refine ⟨cs.set! k (.int .i64 c), ?_, by simpa using h2, fun j hj => ?_⟩
  · simp [World.setCell, Array.getElem?_modify, h1]
  · simp only [Array.set!_eq_setIfInBounds, Array.getElem?_setIfInBounds]
    by_cases e : k = j
    · subst e
      simp [h2, hk]
    · have e' : ¬ j = k := fun c => e c.symm
      simp [e, e', h3 j hj]
theorem Met.congr {g n : Nat} {w : World} {F G : Nat → Int} (h : Met g n w F) (e : ∀ k, k < n → F k = G k) : Met g n w G := by
  obtain ⟨cs, h1, h2, h3⟩ := h
  exact ⟨cs, h1, h2, fun k hk => by rw [h3 k hk, e k hk]⟩
theorem Met.bw {g n : Nat} {w w' : World} {F : Nat → Int} (h : Met g n w F) (hb : Below w.heap.size w w') : Met g n w' F := by
  obtain ⟨cs, h1, h2⟩ := h
  refine ⟨cs, ?_, h2⟩
  rw [hb.block g]
  · exact h1
  · rcases Nat.lt_or_ge g w.heap.size with h | h
    · exact h
    · rw [Array.getElem?_eq_none h] at h1; cases h1

end Go.Proofs.YtkamcjmimfjnkaaDoor
