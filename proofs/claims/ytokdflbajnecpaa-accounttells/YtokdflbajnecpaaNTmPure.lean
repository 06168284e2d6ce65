/- Terms, stores of terms and their dags, as plain lists: nothing here speaks of the program. -/
import Derived.Calls
namespace Go.Proofs.Ytokdflbajnecpaa.Tn

/-- A term: its kind, its number, its two parts. -/
structure Tm where
  kd : Int
  n : Int
  a : Int
  b : Int
  deriving DecidableEq, Inhabited

/-- Is there a term of that number in a store of so many? -/
def thr (N : Nat) (x : Int) : Bool := decide (1 ≤ x) && decide (x ≤ (N : Int))
theorem thr_iff {N : Nat} {x : Int} : thr N x = true ↔ 1 ≤ x ∧ x ≤ (N : Int) := by simp [thr]
theorem thr_false {N : Nat} {x : Int} : thr N x = false ↔ ¬ (1 ≤ x ∧ x ≤ (N : Int)) := by
  cases h : thr N x
  · simp only [true_iff]; intro c; rw [thr_iff.2 c] at h; cases h
  · simp [thr_iff.1 h]

/-- May a term be in a store of so many? -/
def may (N : Nat) (t : Tm) : Bool :=
  if t.kd = 1 then decide (0 ≤ t.n) && decide (t.a = 0) && decide (t.b = 0)
  else if t.kd = 2 then decide (t.a = 0) && decide (t.b = 0)
  else if t.kd = 3 ∨ t.kd = 6 then decide (t.n = 0) && thr N t.a && thr N t.b
  else if t.kd = 4 then decide (0 ≤ t.n) && thr N t.a && (decide (t.b = 0) || thr N t.b)
  else if t.kd = 5 ∨ t.kd = 7 then decide (t.n = 0) && thr N t.a && decide (t.b = 0)
  else false

theorem thr_mono {N M : Nat} {x : Int} (h : thr N x = true) (hNM : N ≤ M) : thr M x = true := by
  have := thr_iff.1 h; exact thr_iff.2 (by omega)
theorem may_parts {N : Nat} {t : Tm} (h : may N t = true) : 0 ≤ t.a ∧ t.a ≤ N ∧ 0 ≤ t.b ∧ t.b ≤ N := by
  unfold may at h
  split at h
  · simp only [Bool.and_eq_true, decide_eq_true_eq] at h; omega
  · split at h
    · simp only [Bool.and_eq_true, decide_eq_true_eq] at h; omega
    · split at h
      · simp only [Bool.and_eq_true, decide_eq_true_eq, thr_iff] at h; omega
      · split at h
        · simp only [Bool.and_eq_true, Bool.or_eq_true, decide_eq_true_eq, thr_iff] at h; omega
        · split at h
          · simp only [Bool.and_eq_true, decide_eq_true_eq, thr_iff] at h; omega
          · cases h
theorem may_mono {N M : Nat} {t : Tm} (h : may N t = true) (hNM : N ≤ M) : may M t = true := by
  unfold may at h ⊢
  split at h
  · rename_i c1; rw [if_pos c1]; exact h
  · rename_i c1; rw [if_neg c1]
    split at h
    · rename_i c2; rw [if_pos c2]; exact h
    · rename_i c2; rw [if_neg c2]
      split at h
      · rename_i c3; rw [if_pos c3]; simp only [Bool.and_eq_true] at h ⊢; exact ⟨⟨h.1.1, thr_mono h.1.2 hNM⟩, thr_mono h.2 hNM⟩
      · rename_i c3; rw [if_neg c3]
        split at h
        · rename_i c4; rw [if_pos c4]; simp only [Bool.and_eq_true, Bool.or_eq_true] at h ⊢; exact ⟨⟨h.1.1, thr_mono h.1.2 hNM⟩, h.2.imp id (fun q => thr_mono q hNM)⟩
        · rename_i c4; rw [if_neg c4]
          split at h
          · rename_i c5; rw [if_pos c5]; simp only [Bool.and_eq_true] at h ⊢; exact ⟨⟨h.1.1, thr_mono h.1.2 hNM⟩, h.2⟩
          · cases h

/-- The number of a term, or 0. -/
def num (L : List Tm) (t : Tm) : Nat := if t ∈ L then L.idxOf t + 1 else 0
theorem num_none {L : List Tm} {t : Tm} (h : t ∉ L) : num L t = 0 := by simp [num, h]
theorem num_le (L : List Tm) (t : Tm) : num L t ≤ L.length := by
  unfold num; split
  · rename_i h; exact List.idxOf_lt_length_iff.2 h
  · omega
theorem num_get {L : List Tm} {t : Tm} (h : t ∈ L) : L[num L t - 1]? = some t ∧ 1 ≤ num L t := by
  have := List.idxOf_lt_length_iff.2 h
  simp only [num, h, if_true, Nat.add_sub_cancel]
  refine ⟨?_, by omega⟩
  rw [List.getElem?_eq_getElem this, List.getElem_idxOf]
theorem num_append {L : List Tm} {t u : Tm} (h : t ∈ L) : num (L ++ [u]) t = num L t := by
  simp [num, h, List.idxOf_append]
theorem num_last {L : List Tm} {t : Tm} (h : t ∉ L) : num (L ++ [t]) t = L.length + 1 := by
  simp [num, List.idxOf_append, h]

/-- A term is made: the terms then, its number, the error. -/
def mkL (L : List Tm) (t : Tm) : List Tm := if may L.length t = true ∧ t ∉ L ∧ L.length < 1048576 then L ++ [t] else L
def mkN (L : List Tm) (t : Tm) : Nat := if may L.length t = true then (if t ∈ L then num L t else if L.length < 1048576 then L.length + 1 else 0) else 0
def mkE (L : List Tm) (t : Tm) : Int := if may L.length t = true then (if t ∈ L then 0 else if L.length < 1048576 then 0 else 3) else 1

/-- A store that calls made: parts have lesser numbers, no term is there twice. -/
structure Good (L : List Tm) : Prop where
  may : ∀ i t, L[i]? = some t → may i t = true
  nodup : L.Nodup
  len : L.length ≤ 1048576
theorem good_nil : Good [] := ⟨by simp, List.nodup_nil, by simp⟩
theorem Good.made {L : List Tm} (h : Good L) (t : Tm) : Good (mkL L t) := by
  unfold mkL
  split
  · rename_i c
    obtain ⟨c1, c2, c3⟩ := c
    refine ⟨fun i u hu => ?_, ?_, by simp; omega⟩
    · rcases Nat.lt_or_ge i L.length with q | q
      · rw [List.getElem?_append_left q] at hu; exact h.may i u hu
      · rw [List.getElem?_append_right q] at hu
        have : i - L.length = 0 := by
          rcases Nat.eq_zero_or_pos (i - L.length) with e | e
          · exact e
          · rw [List.getElem?_eq_none (by simp; omega)] at hu; cases hu
        rw [this] at hu
        simp at hu
        subst hu
        exact may_mono c1 q
    · rw [List.nodup_append]
      refine ⟨h.nodup, by simp, ?_⟩
      intro x hx y hy e
      simp at hy
      subst hy
      subst e
      exact c2 hx
  · exact h
theorem mkL_len (L : List Tm) (t : Tm) : (mkL L t).length ≤ L.length + 1 := by unfold mkL; split <;> simp
theorem mkL_le (L : List Tm) (t : Tm) : L.length ≤ (mkL L t).length := by unfold mkL; split <;> simp
theorem mkL_prefix (L : List Tm) (t : Tm) : ∃ r, mkL L t = L ++ r := by
  unfold mkL; split
  · exact ⟨_, rfl⟩
  · exact ⟨[], by simp⟩
theorem mk_ok {L : List Tm} {t : Tm} (h : may L.length t = true) (hl : L.length < 1048576) : mkE L t = 0 ∧ mkN L t = num (mkL L t) t ∧ t ∈ mkL L t := by
  unfold mkE mkN mkL
  simp only [h, if_true, true_and]
  by_cases c : t ∈ L
  · simp [c]
  · simp [c, hl, num_last c]

/-- The parts of the term of a number, as numbers. -/
def tmAt (L : List Tm) (m : Nat) : Tm := L.getD (m - 1) default
def pA (L : List Tm) (m : Nat) : Nat := (tmAt L m).a.toNat
def pB (L : List Tm) (m : Nat) : Nat := (tmAt L m).b.toNat
theorem Good.parts {L : List Tm} (h : Good L) {m : Nat} (h1 : 1 ≤ m) (h2 : m ≤ L.length) : pA L m < m ∧ pB L m < m := by
  have hlt : m - 1 < L.length := by omega
  have e : L[m - 1]? = some (L.getD (m - 1) default) := by simp [List.getD, List.getElem?_eq_getElem hlt]
  have := may_parts (h.may _ _ e)
  unfold pA pB tmAt
  omega

/-- In which order the terms of a dag are told: those that were told, then what is within the term n, then n. -/
def ordF (L : List Tm) : Nat → Nat → List Nat → List Nat
  | 0, _, o => o
  | f + 1, n, o => if n = 0 ∨ n ∈ o then o else ordF L f (pB L n) (ordF L f (pA L n) o) ++ [n]
def ord (L : List Tm) (n : Nat) : List Nat := ordF L n n []
def pos (o : List Nat) (k : Nat) : Nat := if k ∈ o then o.idxOf k + 1 else 0
def tr (o : List Nat) (t : Tm) : Tm := ⟨t.kd, t.n, pos o t.a.toNat, pos o t.b.toNat⟩
theorem tr_at (L : List Tm) (o : List Nat) (m : Nat) : tr o (tmAt L m) = ⟨(tmAt L m).kd, (tmAt L m).n, pos o (pA L m), pos o (pB L m)⟩ := rfl
def outs (L : List Tm) (o : List Nat) : List Tm := o.map fun m => tr o (tmAt L m)
/-- The dag of the term n. -/
def dag (L : List Tm) (n : Int) : List Tm := if thr L.length n = true then outs L (ord L n.toNat) else []

theorem ordF_skip (L : List Tm) (f n : Nat) (o : List Nat) (h : n = 0 ∨ n ∈ o) : ordF L f n o = o := by
  cases f with
  | zero => rfl
  | succ f => simp only [ordF, h, if_true]
theorem ordF_step (L : List Tm) (f n : Nat) (o : List Nat) (h : ¬ (n = 0 ∨ n ∈ o)) : ordF L (f + 1) n o = ordF L f (pB L n) (ordF L f (pA L n) o) ++ [n] := by
  simp only [ordF, h, if_false]
theorem ordF_prefix (L : List Tm) (f n : Nat) (o : List Nat) : ∃ r, ordF L f n o = o ++ r := by
  induction f generalizing n o with
  | zero => exact ⟨[], by simp [ordF]⟩
  | succ f ih =>
    by_cases h : n = 0 ∨ n ∈ o
    · exact ⟨[], by rw [ordF_skip _ _ _ _ h]; simp⟩
    · obtain ⟨r1, e1⟩ := ih (pA L n) o
      obtain ⟨r2, e2⟩ := ih (pB L n) (o ++ r1)
      exact ⟨r1 ++ r2 ++ [n], by rw [ordF_step _ _ _ _ h, e1, e2]; simp⟩
theorem ordF_sub {L : List Tm} {f n : Nat} {o : List Nat} {x : Nat} (h : x ∈ o) : x ∈ ordF L f n o := by
  obtain ⟨r, e⟩ := ordF_prefix L f n o
  rw [e]; exact List.mem_append_left _ h
theorem ordF_fuel {L : List Tm} (hG : Good L) (f g n : Nat) (o : List Nat) (hn : n ≤ L.length) (hf : n ≤ f) (hg : n ≤ g) : ordF L f n o = ordF L g n o := by
  induction f generalizing g n o with
  | zero => rw [ordF_skip _ _ _ _ (Or.inl (by omega)), ordF_skip _ _ _ _ (Or.inl (by omega))]
  | succ f ih =>
    by_cases h : n = 0 ∨ n ∈ o
    · rw [ordF_skip _ _ _ _ h, ordF_skip _ _ _ _ h]
    · have h0 : n ≠ 0 := fun c => h (Or.inl c)
      obtain ⟨p1, p2⟩ := hG.parts (m := n) (by omega) hn
      cases g with
      | zero => omega
      | succ g =>
        rw [ordF_step _ _ _ _ h, ordF_step _ _ _ _ h, ih g (pA L n) o (by omega) (by omega) (by omega), ih g (pB L n) _ (by omega) (by omega) (by omega)]
/-- One step, at any fuel that is enough. -/
theorem ordF_unfold {L : List Tm} (hG : Good L) {f n : Nat} {o : List Nat} (h1 : 1 ≤ n) (h2 : n ≤ L.length) (hf : n ≤ f) (ho : n ∉ o) : ordF L f n o = ordF L f (pB L n) (ordF L f (pA L n) o) ++ [n] := by
  obtain ⟨p1, p2⟩ := hG.parts h1 h2
  rw [ordF_fuel hG f (f + 1) n o h2 hf (by omega), ordF_step _ _ _ _ (by rintro (c | c); omega; exact ho c)]
theorem ordF_mem {L : List Tm} {f n : Nat} {o : List Nat} (h1 : 1 ≤ n) (hf : n ≤ f) : n ∈ ordF L f n o := by
  by_cases h : n = 0 ∨ n ∈ o
  · rw [ordF_skip _ _ _ _ h]; rcases h with h | h
    · omega
    · exact h
  · cases f with
    | zero => omega
    | succ f => rw [ordF_step _ _ _ _ h]; simp

/-- What was told so far: each once, numbers of terms, a part ahead of what it is a part of. -/
structure Told (L : List Tm) (o : List Nat) : Prop where
  nodup : o.Nodup
  rng : ∀ m ∈ o, 1 ≤ m ∧ m ≤ L.length
  part : ∀ i m, o[i]? = some m → (pA L m = 0 ∨ pA L m ∈ o.take i) ∧ (pB L m = 0 ∨ pB L m ∈ o.take i)
theorem told_nil (L : List Tm) : Told L [] := ⟨List.nodup_nil, by simp, by simp⟩
theorem Told.closed {L : List Tm} {o : List Nat} (h : Told L o) {m : Nat} (hm : m ∈ o) : (pA L m = 0 ∨ pA L m ∈ o) ∧ (pB L m = 0 ∨ pB L m ∈ o) := by
  obtain ⟨i, hi⟩ := List.getElem?_of_mem hm
  obtain ⟨h1, h2⟩ := h.part i m hi
  exact ⟨h1.imp id List.mem_of_mem_take, h2.imp id List.mem_of_mem_take⟩
theorem Told.snoc {L : List Tm} {o : List Nat} (h : Told L o) {n : Nat} (h1 : 1 ≤ n) (h2 : n ≤ L.length) (ho : n ∉ o) (hA : pA L n = 0 ∨ pA L n ∈ o) (hB : pB L n = 0 ∨ pB L n ∈ o) : Told L (o ++ [n]) := by
  refine ⟨?_, ?_, ?_⟩
  · rw [List.nodup_append]
    refine ⟨h.nodup, by simp, ?_⟩
    intro x hx y hy e
    simp at hy
    subst hy
    subst e
    exact ho hx
  · intro m hm
    rcases List.mem_append.1 hm with hm | hm
    · exact h.rng m hm
    · simp at hm; subst hm; exact ⟨h1, h2⟩
  · intro i m hi
    rcases Nat.lt_or_ge i o.length with q | q
    · rw [List.getElem?_append_left q] at hi
      rw [List.take_append_of_le_length (by omega)]
      exact h.part i m hi
    · rw [List.getElem?_append_right q] at hi
      have : i - o.length = 0 := by
        rcases Nat.eq_zero_or_pos (i - o.length) with e | e
        · exact e
        · rw [List.getElem?_eq_none (by simp; omega)] at hi; cases hi
      have hio : i = o.length := by omega
      subst hio
      simp at hi
      subst hi
      simp only [List.take_left']
      exact ⟨hA, hB⟩
theorem ordF_told {L : List Tm} (hG : Good L) (f n : Nat) (o : List Nat) (hn : n ≤ L.length) (hf : n ≤ f) (h : Told L o) : Told L (ordF L f n o) := by
  induction f generalizing n o with
  | zero => exact h
  | succ f ih =>
    by_cases hs : n = 0 ∨ n ∈ o
    · rw [ordF_skip _ _ _ _ hs]; exact h
    · have h0 : n ≠ 0 := fun c => hs (Or.inl c)
      obtain ⟨p1, p2⟩ := hG.parts (m := n) (by omega) hn
      rw [ordF_step _ _ _ _ hs]
      have t1 := ih (pA L n) o (by omega) (by omega) h
      have t2 := ih (pB L n) _ (by omega) (by omega) t1
      refine t2.snoc (by omega) hn ?_ ?_ ?_
      · intro c
        have key : ∀ g m q x, x ∈ ordF L g m q → m ≤ L.length → x ∈ q ∨ x ≤ m := by
          intro g
          induction g with
          | zero => intro m q x hx _; exact Or.inl hx
          | succ g ihg =>
            intro m q x hx hm
            by_cases hc : m = 0 ∨ m ∈ q
            · rw [ordF_skip _ _ _ _ hc] at hx; exact Or.inl hx
            · have hm0 : m ≠ 0 := fun c => hc (Or.inl c)
              obtain ⟨r1, r2⟩ := hG.parts (m := m) (by omega) hm
              rw [ordF_step _ _ _ _ hc] at hx
              rcases List.mem_append.1 hx with hx | hx
              · rcases ihg _ _ _ hx (by omega) with hx | hx
                · rcases ihg _ _ _ hx (by omega) with hx | hx
                  · exact Or.inl hx
                  · right; omega
                · right; omega
              · simp at hx; right; omega
        rcases key _ _ _ _ c (by omega) with c | c
        · rcases key _ _ _ _ c (by omega) with c | c
          · exact hs (Or.inr c)
          · omega
        · omega
      · by_cases e : pA L n = 0
        · exact Or.inl e
        · exact Or.inr (ordF_sub (ordF_mem (by omega) (by omega)))
      · by_cases e : pB L n = 0
        · exact Or.inl e
        · exact Or.inr (ordF_mem (by omega) (by omega))
/-- What comes to the told ones has no greater number. -/
theorem ordF_le {L : List Tm} (hG : Good L) (f n : Nat) (o : List Nat) (x : Nat) (hx : x ∈ ordF L f n o) (hn : n ≤ L.length) : x ∈ o ∨ x ≤ n := by
  induction f generalizing n o with
  | zero => exact Or.inl hx
  | succ f ih =>
    by_cases hc : n = 0 ∨ n ∈ o
    · rw [ordF_skip _ _ _ _ hc] at hx; exact Or.inl hx
    · have hm0 : n ≠ 0 := fun c => hc (Or.inl c)
      obtain ⟨r1, r2⟩ := hG.parts (m := n) (by omega) hn
      rw [ordF_step _ _ _ _ hc] at hx
      rcases List.mem_append.1 hx with hx | hx
      · rcases ih _ _ hx (by omega) with hx | hx
        · rcases ih _ _ hx (by omega) with hx | hx
          · exact Or.inl hx
          · right; omega
        · right; omega
      · simp at hx; right; omega

/-- Numbers up to N, each once, are N at most. -/
theorem nodup_len : ∀ (N : Nat) (o : List Nat), o.Nodup → (∀ m ∈ o, 1 ≤ m ∧ m ≤ N) → o.length ≤ N
  | 0, o, _, h => by
    cases o with
    | nil => simp
    | cons x r => have := h x (by simp); omega
  | N + 1, o, hn, h => by
    have h1 : (o.erase (N + 1)).length ≤ N := nodup_len N _ (hn.erase _) (fun m hm => by
      have hm2 := List.mem_of_mem_erase hm
      have := h m hm2
      have : m ≠ N + 1 := by
        rintro rfl
        exact (List.Nodup.not_mem_erase hn) hm
      omega)
    have := List.length_erase_of_mem (l := o) (a := N + 1)
    by_cases hc : N + 1 ∈ o
    · have := this hc; omega
    · rw [List.erase_of_not_mem hc] at h1; omega
theorem Told.len {L : List Tm} {o : List Nat} (h : Told L o) : o.length ≤ L.length := nodup_len _ _ h.nodup h.rng
theorem Told.len_lt {L : List Tm} {o : List Nat} (h : Told L o) {n : Nat} (h1 : 1 ≤ n) (h2 : n ≤ L.length) (ho : n ∉ o) : o.length < L.length := by
  have : (o ++ [n]).length ≤ L.length := nodup_len _ _ (by
    rw [List.nodup_append]
    refine ⟨h.nodup, by simp, ?_⟩
    intro x hx y hy e
    simp at hy
    subst hy; subst e; exact ho hx) (fun m hm => by
      rcases List.mem_append.1 hm with hm | hm
      · exact h.rng m hm
      · simp at hm; subst hm; exact ⟨h1, h2⟩)
  simp at this
  omega

theorem pos_append {o r : List Nat} {k : Nat} (h : k = 0 ∨ k ∈ o) (h0 : 0 ∉ o ++ r) : pos (o ++ r) k = pos o k := by
  rcases h with rfl | h
  · have h1 : 0 ∉ o := fun c => h0 (List.mem_append_left _ c)
    simp only [pos, h0, h1, if_false]
  · have h2 : k ∈ o ++ r := List.mem_append_left _ h
    simp only [pos, h, h2, if_true, List.idxOf_append]
theorem Told.zero {L : List Tm} {o : List Nat} (h : Told L o) : 0 ∉ o := fun c => by have := h.rng 0 c; omega
/-- The list of what was told grows at its end alone. -/
theorem outs_append {L : List Tm} {o r : List Nat} (h : Told L o) (h2 : Told L (o ++ r)) : outs L (o ++ r) = outs L o ++ r.map fun m => tr (o ++ r) (tmAt L m) := by
  unfold outs
  rw [List.map_append]
  congr 1
  apply List.map_congr_left
  intro m hm
  obtain ⟨q1, q2⟩ := h.closed hm
  rw [tr_at, tr_at, pos_append q1 h2.zero, pos_append q2 h2.zero]
theorem outs_snoc {L : List Tm} {o : List Nat} {n : Nat} (h : Told L o) (h1 : 1 ≤ n) (h2 : n ≤ L.length) (ho : n ∉ o) (hA : pA L n = 0 ∨ pA L n ∈ o) (hB : pB L n = 0 ∨ pB L n ∈ o) : outs L (o ++ [n]) = outs L o ++ [tr o (tmAt L n)] := by
  have h3 := h.snoc h1 h2 ho hA hB
  rw [outs_append h h3]
  simp only [List.map_cons, List.map_nil]
  congr 2
  rw [tr_at, tr_at, pos_append hA h3.zero, pos_append hB h3.zero]

end Go.Proofs.Ytokdflbajnecpaa.Tn
