/- Plain facts of trees that someone leaves. No walk is in this text. -/
import Derived.Test.YtjjkhjiiakamaaaDoorTrY
namespace Go.Proofs.YtjjkhjiiakamaaaDoor
open Go.RowKit Go.Maps

theorem remE_ok {T : List Nd} {m : Int} (h : remE T m = 0) : mayB T = true ∧ ¬ fnd T m < 0 ∧ (mems T).length ≠ 1 := by
  unfold remE at h
  split at h
  · omega
  · rename_i c
    split at h
    · omega
    · split at h
      · omega
      · exact ⟨by cases q : mayB T <;> simp_all, by omega, by omega⟩
theorem blk_len (i : Nat) (T : List Nd) : (blk i T).length = T.length := by unfold blk; rw [onAll_len, List.length_set]
theorem ndAt_blk {T : List Nd} {i : Nat} (hn : nlv T ∈ sizes) (hl : T.length = 2 * nlv T - 1) (hi : i < nlv T) {y : Nat} (hy : y < T.length) :
    ndAt (blk i T) y = if y % 2 = 0 then (if y = 2 * i then nd0 else ndAt T y) else if spF (y : Nat) ≤ (i : Nat) ∧ (i : Nat) ≤ spT (y : Nat) then nd0 else ndAt T y := by
  unfold blk
  obtain ⟨d1, d2, d3, d4, d5, d6⟩ := up_of hn hi
  rw [ndAt_onAll _ _ _ _ d4, List.length_set, ndAt_set]
  have hin := up_in hn hi (show y < 2 * nlv T - 1 by omega)
  simp only [hin]
  by_cases c : y % 2 = 0
  · have c1 : ¬ y % 2 = 1 := by omega
    by_cases c2 : 2 * i = y
    · simp [c, c2, hy]
    · have c3 : ¬ y = 2 * i := fun h => c2 h.symm
      simp [c, c2, c3]
  · have c1 : y % 2 = 1 := by omega
    have c2 : ¬ 2 * i = y := by omega
    simp [c1, c2, hy]
theorem needF_facts (T : List Nd) : ∀ (f n : Nat), n ∈ sizes → n ≤ 2 ^ f → (∀ j, needF f T n ≤ j → j < n → pos (ndAt T (2 * j)) = false) ∧ (needF f T n = 1 ∨ anyM T (needF f T n / 2) (needF f T n) = true) := by
  intro f
  induction f with
  | zero =>
    intro n hn hle
    have : n = 1 := by simp [sizes] at hn; omega
    exact ⟨fun j h1 h2 => by unfold needF at h1; omega, Or.inl this⟩
  | succ f ih =>
    intro n hn hle
    unfold needF
    split
    · rename_i hc
      have h2 : n / 2 ∈ sizes := by simp [sizes] at hn ⊢; omega
      have hp : n / 2 ≤ 2 ^ f := by rw [Nat.pow_succ] at hle; omega
      obtain ⟨i1, i2⟩ := ih (n / 2) h2 hp
      refine ⟨fun j h3 h4 => ?_, i2⟩
      rcases Nat.lt_or_ge j (n / 2) with c | c
      · exact i1 j h3 c
      · cases q : pos (ndAt T (2 * j))
        · rfl
        · have := (anyM_iff T (n / 2) n).2 ⟨j, c, h4, q⟩
          rw [this] at hc; cases hc.2
    · rename_i hc
      refine ⟨fun j h3 h4 => by omega, ?_⟩
      by_cases h1 : n = 1
      · exact Or.inl h1
      · right
        have : 1 < n := by simp [sizes] at hn; omega
        cases q : anyM T (n / 2) n
        · exact absurd ⟨this, q⟩ hc
        · rfl
/-- Who is not alone has company. -/
theorem company {T : List Nd} {i : Nat} (hi : i < nlv T) (hp : pos (ndAt T (2 * i)) = true) (h : (mems T).length ≠ 1) : ∃ j, j < nlv T ∧ j ≠ i ∧ pos (ndAt T (2 * j)) = true := by
  apply Decidable.byContradiction
  intro hc
  apply h
  have hall : ∀ j, j < nlv T → pos (ndAt T (2 * j)) = true → j = i := fun j hj hq => by
    apply Decidable.byContradiction; intro c; exact hc ⟨j, hj, c, hq⟩
  have e : (mems T).length = ((List.range (nlv T)).filter fun j => pos (ndAt T (2 * j))).length := by
    unfold mems memsOf lvs
    rw [List.length_map, List.filter_map, List.length_map]; rfl
  rw [e]
  have hnd : ((List.range (nlv T)).filter fun j => pos (ndAt T (2 * j))).Nodup := List.Nodup.sublist List.filter_sublist List.nodup_range
  have hmem : ∀ x ∈ ((List.range (nlv T)).filter fun j => pos (ndAt T (2 * j))), x = i := fun x hx => by
    obtain ⟨h1, h2⟩ := List.mem_filter.1 hx
    exact hall x (List.mem_range.1 h1) h2
  have hin : i ∈ ((List.range (nlv T)).filter fun j => pos (ndAt T (2 * j))) := List.mem_filter.2 ⟨List.mem_range.2 hi, hp⟩
  generalize ((List.range (nlv T)).filter fun j => pos (ndAt T (2 * j))) = l at *
  match l with
  | [] => cases hin
  | [x] => rfl
  | x :: y :: r =>
    have h1 := hmem x (by simp)
    have h2 := hmem y (by simp)
    have := List.nodup_cons.1 hnd
    exact absurd (by simp [h1, h2]) this.1
/-- What a removal leaves. -/
structure Rm (T R : List Nd) (i : Nat) : Prop where
  ok : Ok R
  n : nlv R ≤ nlv T
  i8 : i < nlv T
  t8 : nlv T ≤ 8
  leaf : ∀ j, j < nlv R → j ≠ i → ndAt R (2 * j) = ndAt T (2 * j)
  gone : i < nlv R → ndAt R (2 * i) = nd0
  above : ∀ y, y < R.length → y % 2 = 1 → spF (y : Nat) ≤ (i : Nat) → (i : Nat) ≤ spT (y : Nat) → ndAt R y = nd0
  beside : ∀ y, y < R.length → y % 2 = 1 → ¬ (spF (y : Nat) ≤ (i : Nat) ∧ (i : Nat) ≤ spT (y : Nat)) → ndAt R y = ndAt T y
  far : ∀ j, nlv R ≤ j → j < nlv T → j ≠ i → pos (ndAt T (2 * j)) = false
theorem rm_of {T : List Nd} {m : Int} (h : remE T m = 0) : ∃ i : Nat, fnd T m = i ∧ hit m (ndAt T (2 * i)) = true ∧ Rm T (remT T m) i := by
  obtain ⟨hm, hf, hl⟩ := remE_ok h
  obtain ⟨i, hfe, hi, hh⟩ := fnd_range hf
  have ok := mayB_okn hm (nlv_pos (by omega))
  obtain ⟨g1, g2, g3, g4, g5⟩ := ok.wd.facts
  have hip : pos (ndAt T (2 * i)) = true := by unfold hit at hh; simp only [Bool.and_eq_true] at hh; exact hh.1
  refine ⟨i, hfe, hh, ?_⟩
  unfold remT
  rw [hfe, Int.toNat_natCast]
  have hB := fun {y} (hy : y < T.length) => ndAt_blk (T := T) (i := i) g1 g2 hi hy
  have hBl := blk_len i T
  have hBn : nlv (blk i T) = nlv T := by unfold nlv; rw [hBl]
  unfold need
  rw [hBn]
  obtain ⟨s1, s2⟩ := needF_sizes (blk i T) 4 (nlv T) g1
  obtain ⟨f1, f2⟩ := needF_facts (blk i T) 4 (nlv T) g1 (by omega)
  generalize needF 4 (blk i T) (nlv T) = n at *
  generalize blk i T = B at *
  have hn0 : 0 < n := by simp [sizes] at s1; omega
  obtain ⟨R, hR⟩ : ∃ R, R = fit (2 * n - 1) B := ⟨_, rfl⟩
  rw [← hR]
  have hRl : R.length = 2 * n - 1 := by rw [hR, fit_len]
  have hRn : nlv R = n := by unfold nlv; rw [hRl]; omega
  have hRB : ∀ y, y < 2 * n - 1 → ndAt R y = ndAt B y := fun y hy => by rw [hR, ndAt_fit hy]
  have hleaf : ∀ j, j < n → j ≠ i → ndAt R (2 * j) = ndAt T (2 * j) := fun j hj hji => by
    rw [hRB _ (by omega), hB (by omega), if_pos (by omega), if_neg (by omega)]
  have hgone : i < n → ndAt R (2 * i) = nd0 := fun hi' => by
    rw [hRB _ (by omega), hB (by omega), if_pos (by omega), if_pos rfl]
  have habove : ∀ y, y < 2 * n - 1 → y % 2 = 1 → spF (y : Nat) ≤ (i : Nat) → (i : Nat) ≤ spT (y : Nat) → ndAt R y = nd0 := fun y hy ho q1 q2 => by
    rw [hRB _ hy, hB (by omega), if_neg (by omega), if_pos ⟨q1, q2⟩]
  have hbeside : ∀ y, y < 2 * n - 1 → y % 2 = 1 → ¬ (spF (y : Nat) ≤ (i : Nat) ∧ (i : Nat) ≤ spT (y : Nat)) → ndAt R y = ndAt T y := fun y hy ho q => by
    rw [hRB _ hy, hB (by omega), if_neg (by omega), if_neg q]
  have hfar : ∀ j, n ≤ j → j < nlv T → j ≠ i → pos (ndAt T (2 * j)) = false := fun j h1 h2 h3 => by
    have := f1 j h1 h2
    rwa [hB (by omega), if_pos (by omega), if_neg (by omega)] at this
  have hnil : ∀ y, ndAt R y = nd0 → ndM R y = true := fun y hy => by unfold ndM; rw [hy]; simp [nd0]
  refine ⟨⟨⟨n, s1, hRl⟩, fun x hx => ?_, ?_, ?_⟩, by omega, hi, g4, by rw [hRn]; exact hleaf, by rw [hRn]; exact hgone, by rw [hRl]; exact habove, by rw [hRl]; exact hbeside, by rw [hRn]; exact hfar⟩
  · rw [hRl] at hx
    have hT := ok.nd x (by omega)
    obtain ⟨⟨p1, p2, p3, p4⟩, _⟩ := span_of s1 hx
    rcases Nat.mod_two_eq_zero_or_one x with c | c
    · obtain ⟨j, rfl⟩ : ∃ j, x = 2 * j := ⟨x / 2, by omega⟩
      by_cases cj : j = i
      · subst cj; exact hnil _ (hgone (by omega))
      · unfold ndM at hT ⊢
        rw [hleaf j (by omega) cj]
        simpa [c] using hT
    · have c' : ¬ x % 2 = 0 := by omega
      by_cases q : spF (x : Nat) ≤ (i : Nat) ∧ (i : Nat) ≤ spT (x : Nat)
      · exact hnil _ (habove x hx c q.1 q.2)
      · have he := hbeside x hx c q
        unfold ndM at hT ⊢
        rw [he]
        split at hT
        · rename_i z; rw [if_pos z]; exact hT
        · rename_i z
          rw [if_neg z]
          split at hT
          · cases hT
          · rename_i z2
            rw [if_neg z2, if_neg c']
            simp only [Bool.and_eq_true] at hT ⊢
            obtain ⟨⟨t1, t2⟩, t3⟩ := hT
            obtain ⟨u1, u2⟩ := unM_sorted t3
            obtain ⟨_, u4⟩ := unM_bounds t3
            refine ⟨⟨t1, t2⟩, unM_mk u1 (fun u hu => ?_)⟩
            obtain ⟨a1, a2, a3⟩ := u4 u hu
            refine ⟨a1, a2, ?_⟩
            rw [hleaf _ (by omega) (by omega)]; exact a3
  · rw [mems_nodup, hRn]
    intro a b hab hb ha' hb'
    have hd := mems_nodup.1 ok.nodup
    have hne : ∀ k, k < n → pos (ndAt R (2 * k)) = true → k ≠ i := fun k hk hp hc => by
      subst hc; rw [hgone hk] at hp; cases hp
    have na := hne a (by omega) ha'
    have nb := hne b hb hb'
    rw [hleaf a (by omega) na] at ha' ⊢
    rw [hleaf b hb nb] at hb' ⊢
    exact hd a b hab (by omega) ha' hb'
  · rw [hRn, anyM_iff]
    rcases f2 with c | c
    · obtain ⟨j, j1, j2, j3⟩ := company hi hip hl
      have : j < n := by
        apply Decidable.byContradiction; intro q
        have := hfar j (by omega) j1 j2
        rw [j3] at this; cases this
      exact ⟨j, by omega, this, by rw [hleaf j this j2]; exact j3⟩
    · obtain ⟨k, k1, k2, k3⟩ := (anyM_iff _ _ _).1 c
      exact ⟨k, k1, k2, by rw [hRB _ (by omega)]; exact k3⟩
/-- Nobody names a leaf that is blank, or no leaf. -/
theorem rsl_no {R : List Nd} (ok : Ok R) {l : Nat} (h : l < nlv R → pos (ndAt R (2 * l)) = false) : ∀ x, x < R.length → ((2 * l : Nat) : Int) ∉ rsl R x ∧ (l : Int) ∉ (ndAt R x).un := by
  obtain ⟨g1, g2, g3, g4, g5⟩ := ok.wd.facts
  have hun : ∀ x, x < R.length → (l : Int) ∉ (ndAt R x).un := fun x hx hc => by
    rcases ndM_un (ok.nd x hx) with e | ⟨ho, _, e⟩
    · rw [e] at hc; cases hc
    · obtain ⟨⟨s1, s2, s3, s4⟩, _⟩ := span_of g1 (show x < 2 * nlv R - 1 by omega)
      have := (unM_bounds e).2 _ hc
      rw [Int.toNat_natCast, h (by omega)] at this; cases this.2.2
  have hpos : ∀ x, x < R.length → pos (ndAt R x) = true → ((2 * l : Nat) : Int) ∉ rsl R x := fun x hx hp hc => by
    rw [rsl_pos hp] at hc
    rcases List.mem_cons.1 hc with e | hc
    · have e : x = 2 * l := by omega
      rw [e, h (by omega)] at hp; cases hp
    · obtain ⟨u, hu, e⟩ := List.mem_map.1 hc
      have : u = (l : Int) := by omega
      rw [this] at hu; exact hun x hx hu
  intro x hx
  refine ⟨?_, hun x hx⟩
  revert x
  rw [g2]
  refine node_ind g1 (fun x hx ho => ?_) (fun x hx ho i1 i2 => ?_)
  · cases hp : pos (ndAt R x)
    · rw [rsl_leaf hp ho]; simp
    · exact hpos x (by omega) hp
  · cases hp : pos (ndAt R x)
    · rw [rsl_par g1 hx hp ho]
      intro hc
      rcases List.mem_append.1 hc with h | h
      · exact i1 h
      · exact i2 h
    · exact hpos x (by omega) hp
end Go.Proofs.YtjjkhjiiakamaaaDoor
