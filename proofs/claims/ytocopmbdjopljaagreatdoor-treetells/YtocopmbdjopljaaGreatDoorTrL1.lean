/- Plain facts of a tree to which someone comes. -/
import Derived.Test.YtocopmbdjopljaaGreatDoorTrL0
namespace Go.Proofs.YtocopmbdjopljaaGreatDoor
open Go.RowKit Go.Maps

theorem unM_sorted {T : List Nd} {L : Int} : ∀ {l : List Int} {f : Int}, unM T f L l = true → l.Pairwise (· < ·) ∧ ∀ u ∈ l, f ≤ u
  | [], _, _ => ⟨List.Pairwise.nil, by simp⟩
  | u :: us, f, h => by
    simp only [unM, Bool.and_eq_true, decide_eq_true_eq] at h
    obtain ⟨⟨⟨h1, h2⟩, h3⟩, h4⟩ := h
    obtain ⟨i1, i2⟩ := unM_sorted h4
    refine ⟨List.Pairwise.cons (fun z hz => by have := i2 z hz; omega) i1, fun z hz => ?_⟩
    rcases List.mem_cons.1 hz with rfl | hz
    · exact h1
    · have := i2 z hz; omega
theorem un_ok {T : List Nd} (h : mayB T = true) (x : Nat) : (ndAt T x).un.Pairwise (· ≤ ·) ∧ (ndAt T x).un.length ≤ 8 := by
  rcases Nat.lt_or_ge x T.length with c | c
  · have ok := mayB_okn h (by omega)
    refine ⟨?_, (ok.sm x c).1⟩
    rcases ndM_un (ok.nd x c) with e | ⟨_, _, e⟩
    · rw [e]; exact List.Pairwise.nil
    · exact (unM_sorted e).1.imp (fun h => by omega)
  · rw [ndAt_ge c]; exact ⟨List.Pairwise.nil, by simp [nd0]⟩
theorem un_len {T : List Nd} (h : mayB T = true) : ∀ n ∈ T, n.un.length ≤ 8 := by
  intro n hn
  obtain ⟨i, hi⟩ := List.mem_iff_getElem?.1 hn
  have hlt := (List.getElem?_eq_some_iff.1 hi).1
  rw [ndAt_of hlt] at hi
  cases hi
  exact (un_ok h i).2
theorem fb_le (T : List Nd) : fb T ≤ nlv T := by
  unfold fb; rw [← lvs_len]; exact List.findIdx_le_length
theorem nlv_sizes {T : List Nd} (h : mayB T = true) : nlv T = 0 ∨ nlv T ∈ sizes := by
  rcases mayB_wd h with rfl | h
  · exact Or.inl rfl
  · exact Or.inr h.facts.1
theorem wRoom_sizes {T : List Nd} (h : mayB T = true) (h8 : fb T ≠ 8) : wRoom (nlv T) (fb T) ∈ sizes ∧ fb T < wRoom (nlv T) (fb T) ∧ nlv T ≤ 8 := by
  have hle := fb_le T
  have hn := nlv_sizes h
  unfold wRoom
  simp [sizes] at hn ⊢
  split
  · omega
  · split <;> omega
theorem onAll_nil (f : Nd → Nd) (T : List Nd) : onAll f [] T = T := rfl
theorem onAll_snoc (f : Nd → Nd) (l : List Nat) (x : Nat) (T : List Nd) : onAll f (l ++ [x]) T = (onAll f l T).set x (f (ndAt (onAll f l T) x)) := by
  unfold onAll; rw [List.foldl_append]; rfl
theorem onAll_len (f : Nd → Nd) (l : List Nat) (T : List Nd) : (onAll f l T).length = T.length := by
  unfold onAll
  induction l generalizing T with
  | nil => rfl
  | cons x l ih => rw [List.foldl_cons, ih]; simp
theorem ndAt_set (T : List Nd) (x y : Nat) (n : Nd) : ndAt (T.set x n) y = if x = y ∧ y < T.length then n else ndAt T y := by
  unfold ndAt
  rw [List.getD_eq_getElem?_getD, List.getD_eq_getElem?_getD, List.getElem?_set]
  by_cases c : x = y
  · subst c
    by_cases c2 : x < T.length
    · simp [c2]
    · simp [c2]
  · simp [c]
theorem onAll_cons (f : Nd → Nd) (x : Nat) (l : List Nat) (T : List Nd) : onAll f (x :: l) T = onAll f l (T.set x (f (ndAt T x))) := rfl
theorem ndAt_onAll (f : Nd → Nd) : ∀ (l : List Nat) (T : List Nd) (y : Nat), l.Nodup → ndAt (onAll f l T) y = if y ∈ l ∧ y < T.length then f (ndAt T y) else ndAt T y := by
  intro l
  induction l with
  | nil => intro T y _; simp [onAll_nil]
  | cons x l ih =>
    intro T y hd
    have hd := List.nodup_cons.1 hd
    rw [onAll_cons, ih _ _ hd.2, ndAt_set, List.length_set]
    by_cases c : y = x
    · subst c
      have : y ∉ l := hd.1
      by_cases c2 : y < T.length <;> simp [this, c2]
    · have c' : ¬ x = y := fun h => c h.symm
      simp [c, c']
end Go.Proofs.YtocopmbdjopljaaGreatDoor
