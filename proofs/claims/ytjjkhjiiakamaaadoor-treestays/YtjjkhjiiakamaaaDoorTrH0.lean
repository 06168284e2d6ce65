/- Rows of rows of numbers, of one's own; plain facts of ways up. No walk is in this text. -/
import Derived.Test.YtjjkhjiiakamaaaDoorTrG
namespace Go.Proofs.YtjjkhjiiakamaaaDoor
open Go.RowKit Go.Maps

structure RR (B : Nat) (w : World) (v : Value) (ls : List (List Int)) (us : List Value) : Prop where
  ul : us.length = ls.length
  row : w.ownsRow B 32 1 v ls.length us
  un : ∀ (i : Nat) (l : List Int) (u : Value), ls[i]? = some l → us[i]? = some u → Ints B w u l
  apart : ∀ (i j : Nat) (u u' : Value) (k : Nat), us[i]? = some u → us[j]? = some u' → u.ownBlock = some k → u'.ownBlock = some k → i = j
/-- The blocks of its rows. -/
def rrB (us : List Value) : List Nat := us.filterMap Value.ownBlock
theorem mem_rrB {us : List Value} {k : Nat} : k ∈ rrB us ↔ ∃ (i : Nat) (u : Value), us[i]? = some u ∧ u.ownBlock = some k := by
  unfold rrB
  rw [List.mem_filterMap]
  constructor
  · rintro ⟨u, hu, hk⟩
    obtain ⟨i, hi⟩ := List.mem_iff_getElem?.1 hu
    exact ⟨i, u, hi, hk⟩
  · rintro ⟨i, u, hu, hk⟩
    exact ⟨u, List.mem_of_getElem? hu, hk⟩
theorem RR.pick {B : Nat} {w : World} {v : Value} {ls : List (List Int)} {us : List Value} (h : RR B w v ls us) {i : Nat} {u : Value} (hu : us[i]? = some u) : ∃ l, ls[i]? = some l ∧ Ints B w u l := by
  have hlt : i < ls.length := by rw [← h.ul]; exact (List.getElem?_eq_some_iff.1 hu).1
  exact ⟨ls[i], List.getElem?_eq_getElem hlt, h.un i _ u (List.getElem?_eq_getElem hlt) hu⟩
theorem RR.lt {B : Nat} {w : World} {v : Value} {ls : List (List Int)} {us : List Value} (h : RR B w v ls us) {k : Nat} (hk : k ∈ rrB us) : B ≤ k ∧ k < w.heap.size := by
  obtain ⟨i, u, hu, hk⟩ := mem_rrB.1 hk
  obtain ⟨l, _, hl⟩ := h.pick hu
  exact World.ownsRow.lt hl k hk
theorem RR.keep {B : Nat} {w w' : World} {v : Value} {ls : List (List Int)} {us : List Value} (h : RR B w v ls us) {S : List Nat} (hf : Fr S w w') (h1 : ∀ k, v.ownBlock = some k → k ∉ S) (h2 : ∀ k ∈ rrB us, k ∉ S) : RR B w' v ls us :=
  ⟨h.ul, own_keep h.row (fun k hk => hf.block k (World.ownsRow.lt h.row k hk).2 (h1 k hk)), fun i l u hl hu => own_keep (h.un i l u hl hu) (fun k hk => hf.block k (World.ownsRow.lt (h.un i l u hl hu) k hk).2 (h2 k (mem_rrB.2 ⟨i, u, hu, hk⟩))), h.apart⟩
theorem RR.bw {B : Nat} {w w' : World} {v : Value} {ls : List (List Int)} {us : List Value} (h : RR B w v ls us) (hb : Below w.heap.size w w') : RR B w' v ls us := h.keep (Fr.ofBelow hb) (by simp) (by simp)
theorem rr_nil (B : Nat) (w : World) : RR B w (.slice none 0 0) [] [] := ⟨rfl, World.ownsRow_nil _ _ _ _, fun i n u h => by simp at h, fun i j u u' k h => by simp at h⟩
theorem infoInts : (Tryd.prog.info? 32).map (fun i => (i.zero, i.size, i.bytes)) = some (some (.slice none 0 0), 1, 24) := by kernel_rfl
theorem ints_one {B : Nat} {w : World} {u : Value} {l : List Int} (h : Ints B w u l) : u.oneCell' = true := by
  obtain ⟨a, c, rfl⟩ := own_slice h; rfl
/-- A row is laid behind the others. -/
theorem RR.push {B : Nat} {w w' : World} {v v' : Value} {ls : List (List Int)} {us : List Value} {u : Value} {l : List Int} (h : RR B w v ls us) (hu : Ints B w u l) (hn : ∀ k, u.ownBlock = some k → k ∉ rrB us)
    (hr : w'.ownsRow B 32 1 v' (ls.length + 1) (us ++ [u])) (hg : w.grownBy w' v.ownBlock) : RR B w' v' (ls ++ [l]) (us ++ [u]) := by
  have hf : Fr v.ownBlock.toList w w' := Fr.ofGrown hg
  have hne : ∀ (x : Value) (m : List Int), Ints B w x m → ∀ k, x.ownBlock = some k → k ∉ v.ownBlock.toList := fun x m hx k hk c => by
    have c : v.ownBlock = some k := by simpa using c
    exact own_apart hx h.row (show (3 : Nat) ≠ 32 by decide) hk c
  have kp : ∀ (x : Value) (m : List Int), Ints B w x m → Ints B w' x m := fun x m hx => own_keep hx (fun k hk => hf.block k (World.ownsRow.lt hx k hk).2 (hne x m hx k hk))
  refine ⟨by simp [h.ul], by simpa using hr, ?_, ?_⟩
  · intro i l' u' hl hu'
    rcases Nat.lt_or_ge i ls.length with c | c
    · rw [List.getElem?_append_left c] at hl
      rw [List.getElem?_append_left (by rw [h.ul]; exact c)] at hu'
      exact kp _ _ (h.un i l' u' hl hu')
    · rw [List.getElem?_append_right c] at hl
      rw [List.getElem?_append_right (by rw [h.ul]; exact c)] at hu'
      have e : i - ls.length = 0 := by
        have := (List.getElem?_eq_some_iff.1 hl).1; simpa using this
      rw [e] at hl
      rw [h.ul, e] at hu'
      simp at hl hu'
      subst hl hu'
      exact kp _ _ hu
  · intro i j u1 u2 k h1 h2 hk1 hk2
    have cs : ∀ i (x : Value), (us ++ [u])[i]? = some x → (us[i]? = some x) ∨ (i = us.length ∧ x = u) := fun i x hx => by
      rcases Nat.lt_or_ge i us.length with c | c
      · rw [List.getElem?_append_left c] at hx; exact Or.inl hx
      · rw [List.getElem?_append_right c] at hx
        have e : i - us.length = 0 := by have := (List.getElem?_eq_some_iff.1 hx).1; simpa using this
        rw [e] at hx; simp at hx; exact Or.inr ⟨by omega, hx.symm⟩
    rcases cs i u1 h1 with c1 | ⟨c1, rfl⟩ <;> rcases cs j u2 h2 with c2 | ⟨c2, rfl⟩
    · exact h.apart i j u1 u2 k c1 c2 hk1 hk2
    · exact absurd (mem_rrB.2 ⟨i, u1, c1, hk1⟩) (hn k hk2)
    · exact absurd (mem_rrB.2 ⟨j, u2, c2, hk2⟩) (hn k hk1)
    · omega

theorem up_of {n i : Nat} (hn : n ∈ sizes) (hi : i < n) : dir ((2 * i : Nat) : Int) (n : Nat) = (upN n i).map (fun (x : Nat) => (x : Int)) ∧ cop ((2 * i : Nat) : Int) (n : Nat) = (sdN n i).map (fun (x : Nat) => (x : Int)) ∧ (upN n i).length = (sdN n i).length ∧ (upN n i).Nodup ∧ (∀ x ∈ upN n i, x < 2 * n - 1 ∧ x % 2 = 1) ∧ (∀ x ∈ sdN n i, x < 2 * n - 1) := by
  have h := List.all_eq_true.1 fin_up n hn
  have h := List.all_eq_true.1 h i (List.mem_range.2 hi)
  simp only [Bool.and_eq_true, decide_eq_true_eq, List.all_eq_true] at h
  obtain ⟨⟨⟨⟨⟨h1, h2⟩, h3⟩, h4⟩, h5⟩, h6⟩ := h
  exact ⟨h1, h2, h3, h4, h5, h6⟩
theorem up_in {n i x : Nat} (hn : n ∈ sizes) (hi : i < n) (hx : x < 2 * n - 1) : x ∈ upN n i ↔ x % 2 = 1 ∧ spF (x : Nat) ≤ (i : Nat) ∧ (i : Nat) ≤ spT (x : Nat) := by
  have h := List.all_eq_true.1 fin_in n hn
  have h := List.all_eq_true.1 h i (List.mem_range.2 hi)
  have h := List.all_eq_true.1 h x (List.mem_range.2 hx)
  simp only [decide_eq_true_eq] at h
  rw [← List.contains_iff_mem, h]
  simp [and_assoc]
theorem fin_len : (sizes.all fun n => (List.range n).all fun i => decide ((upN n i).length ≤ 3)) = true := by decide +kernel
theorem up_len {n i : Nat} (hn : n ∈ sizes) (hi : i < n) : (upN n i).length ≤ 3 := by
  have h := List.all_eq_true.1 fin_len n hn
  have h := List.all_eq_true.1 h i (List.mem_range.2 hi)
  simpa using h
/-- The pairs of a way, looked at one by one. -/
def prsL (T : List Nd) (l : List (Nat × Nat)) : List (Nat × List Int) := (l.map fun p => (p.1, rsl T p.2)).filter fun p => !p.2.isEmpty
theorem prs_eq (T : List Nd) (i : Nat) : prs T i = prsL T ((upN (nlv T) i).zip (sdN (nlv T) i)) := rfl
theorem prsL_snoc (T : List Nd) (l : List (Nat × Nat)) (p : Nat × Nat) : prsL T (l ++ [p]) = prsL T l ++ if rsl T p.2 = [] then [] else [(p.1, rsl T p.2)] := by
  unfold prsL
  rw [List.map_append, List.filter_append]
  cases h : rsl T p.2 <;> simp [h]
theorem prsL_len (T : List Nd) (l : List (Nat × Nat)) : (prsL T l).length ≤ l.length := by
  unfold prsL; exact Nat.le_trans (List.length_filter_le _ _) (by simp)
end Go.Proofs.YtjjkhjiiakamaaaDoor
