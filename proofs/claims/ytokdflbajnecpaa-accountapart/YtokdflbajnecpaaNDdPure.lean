/- What follows from known terms, as sets of numbers; and what a list of marks, with links between terms, must keep to tell it. Nothing here speaks of the program. -/
import Derived.Test.YtokdflbajnecpaaZ01
namespace Go.Proofs.Ytokdflbajnecpaa.Tn
def kdOf (L : List Tm) (m : Nat) : Int := (tmAt L m).kd
def opn (L : List Tm) (m : Nat) : Nat := if kdOf L (pA L m) = 5 then pA L (pA L m) else pA L m
inductive Fol (L : List Tm) (K : Nat → Prop) : Nat → Prop
  | known {m : Nat} : 1 ≤ m → m ≤ L.length → K m → Fol L K m
  | make {m : Nat} : 1 ≤ m → m ≤ L.length → kdOf L m ≠ 1 → (pA L m ≠ 0 → Fol L K (pA L m)) → (pB L m ≠ 0 → Fol L K (pB L m)) → Fol L K m
  | pairA {m : Nat} : Fol L K m → kdOf L m = 3 → Fol L K (pA L m)
  | pairB {m : Nat} : Fol L K m → kdOf L m = 3 → Fol L K (pB L m)
  | opens {m : Nat} : Fol L K m → kdOf L m = 6 → Fol L K (opn L m) → Fol L K (pB L m)
theorem tmAt_get {L : List Tm} {m : Nat} (h1 : 1 ≤ m) (h2 : m ≤ L.length) : L[m - 1]? = some (tmAt L m) := by
  simp [tmAt, List.getD, List.getElem?_eq_getElem (show m - 1 < L.length by omega)]
theorem goodAt {L : List Tm} (h : Good L) {m : Nat} (h1 : 1 ≤ m) (h2 : m ≤ L.length) : may (m - 1) (tmAt L m) = true := h.may _ _ (tmAt_get h1 h2)
theorem Good.pos2 {L : List Tm} (h : Good L) {m : Nat} (h1 : 1 ≤ m) (h2 : m ≤ L.length) (hk : kdOf L m = 3 ∨ kdOf L m = 6) : 1 ≤ pA L m ∧ 1 ≤ pB L m := by
  have hm := goodAt h h1 h2
  unfold kdOf at hk
  unfold Go.Proofs.Ytokdflbajnecpaa.Tn.may at hm
  rw [if_neg (by rcases hk with h | h <;> rw [h] <;> decide), if_neg (by rcases hk with h | h <;> rw [h] <;> decide), if_pos hk] at hm
  simp only [Bool.and_eq_true, decide_eq_true_eq, thr_iff] at hm
  unfold pA pB
  omega
theorem Good.pos5 {L : List Tm} (h : Good L) {m : Nat} (h1 : 1 ≤ m) (h2 : m ≤ L.length) (hk : kdOf L m = 5) : 1 ≤ pA L m := by
  have hm := goodAt h h1 h2
  unfold kdOf at hk
  unfold Go.Proofs.Ytokdflbajnecpaa.Tn.may at hm
  rw [if_neg (by rw [hk]; decide), if_neg (by rw [hk]; decide), if_neg (by rw [hk]; decide), if_neg (by rw [hk]; decide), if_pos (Or.inl hk)] at hm
  simp only [Bool.and_eq_true, decide_eq_true_eq, thr_iff] at hm
  unfold pA
  omega
theorem Good.opn {L : List Tm} (h : Good L) {m : Nat} (h1 : 1 ≤ m) (h2 : m ≤ L.length) (hk : kdOf L m = 6) : 1 ≤ opn L m ∧ opn L m < m := by
  obtain ⟨a1, _⟩ := h.pos2 h1 h2 (Or.inr hk)
  obtain ⟨p1, _⟩ := h.parts h1 h2
  unfold Go.Proofs.Ytokdflbajnecpaa.Tn.opn
  split
  · rename_i c
    have := h.pos5 a1 (by omega) c
    have := (h.parts a1 (by omega)).1
    omega
  · omega
theorem Fol.rng {L : List Tm} {K : Nat → Prop} (hG : Good L) {m : Nat} (h : Fol L K m) : 1 ≤ m ∧ m ≤ L.length := by
  induction h with
  | known h1 h2 _ => exact ⟨h1, h2⟩
  | make h1 h2 _ _ _ _ _ => exact ⟨h1, h2⟩
  | pairA _ hk ih => have := hG.pos2 ih.1 ih.2 (Or.inl hk); have := hG.parts ih.1 ih.2; omega
  | pairB _ hk ih => have := hG.pos2 ih.1 ih.2 (Or.inl hk); have := hG.parts ih.1 ih.2; omega
  | opens _ hk _ ih _ => have := hG.pos2 ih.1 ih.2 (Or.inr hk); have := hG.parts ih.1 ih.2; omega
structure Clo (L : List Tm) (S : Nat → Prop) : Prop where
  make : ∀ m, 1 ≤ m → m ≤ L.length → kdOf L m ≠ 1 → (pA L m ≠ 0 → S (pA L m)) → (pB L m ≠ 0 → S (pB L m)) → S m
  pairA : ∀ m, 1 ≤ m → m ≤ L.length → S m → kdOf L m = 3 → S (pA L m)
  pairB : ∀ m, 1 ≤ m → m ≤ L.length → S m → kdOf L m = 3 → S (pB L m)
  opens : ∀ m, 1 ≤ m → m ≤ L.length → S m → kdOf L m = 6 → S (opn L m) → S (pB L m)
theorem Fol.least {L : List Tm} {K S : Nat → Prop} (hG : Good L) (hc : Clo L S) (hk : ∀ m, 1 ≤ m → m ≤ L.length → K m → S m) {m : Nat} (h : Fol L K m) : S m := by
  induction h with
  | known h1 h2 h3 => exact hk _ h1 h2 h3
  | make h1 h2 h3 _ _ i1 i2 => exact hc.make _ h1 h2 h3 i1 i2
  | pairA h1 h2 i => exact hc.pairA _ (h1.rng hG).1 (h1.rng hG).2 i h2
  | pairB h1 h2 i => exact hc.pairB _ (h1.rng hG).1 (h1.rng hG).2 i h2
  | opens h1 h2 h3 i1 i2 => exact hc.opens _ (h1.rng hG).1 (h1.rng hG).2 i1 h2 i2
theorem Fol.clo (L : List Tm) (K : Nat → Prop) : Clo L (Fol L K) :=
  ⟨fun _ h1 h2 h3 h4 h5 => .make h1 h2 h3 h4 h5, fun _ _ _ h k => .pairA h k, fun _ _ _ h k => .pairB h k, fun _ _ _ h k o => .opens h k o⟩
theorem Fol.mono {L : List Tm} {K K' : Nat → Prop} (hG : Good L) (h : ∀ m, 1 ≤ m → m ≤ L.length → K m → Fol L K' m) {m : Nat} (f : Fol L K m) : Fol L K' m := f.least hG (Fol.clo L K') h
theorem Fol.sub {L : List Tm} {K K' : Nat → Prop} (hG : Good L) (h : ∀ m, K m → K' m) {m : Nat} (f : Fol L K m) : Fol L K' m := f.mono hG fun _ h1 h2 k => .known h1 h2 (h _ k)
def On (F : List Bool) (m : Nat) : Prop := F[m]? = some true
theorem On.lt {F : List Bool} {m : Nat} (h : On F m) : m < F.length := by
  rcases Nat.lt_or_ge m F.length with c | c
  · exact c
  · unfold On at h; rw [List.getElem?_eq_none c] at h; cases h
theorem on_set {F : List Bool} {n m : Nat} (hn : n < F.length) : On (F.set n true) m ↔ m = n ∨ On F m := by
  unfold On
  rw [List.getElem?_set]
  by_cases e : n = m
  · subst e; simp [hn]
  · simp [e, Ne.symm e]
theorem on_snoc {F : List Bool} {x : Bool} {m : Nat} : On (F ++ [x]) m ↔ On F m ∨ (m = F.length ∧ x = true) := by
  unfold On
  rcases Nat.lt_or_ge m F.length with c | c
  · rw [List.getElem?_append_left c]
    constructor
    · exact Or.inl
    · rintro (h | ⟨h, _⟩)
      · exact h
      · omega
  · rw [List.getElem?_append_right c, List.getElem?_eq_none c]
    rcases Nat.eq_or_lt_of_le c with d | d
    · rw [← d]; simp
    · rw [List.getElem?_eq_none (by simp; omega)]; simp; omega
def onB (F : List Bool) (m : Nat) : Bool := F.getD m false
theorem onB_iff {F : List Bool} {m : Nat} : onB F m = true ↔ On F m := by
  unfold onB On
  cases h : F[m]? <;> simp [List.getD, h]
def cmk (L : List Tm) (F : List Bool) (m : Nat) : Bool := !decide (kdOf L m = 1) && onB F (pA L m) && onB F (pB L m)
theorem cmk_iff {L : List Tm} {F : List Bool} {m : Nat} : cmk L F m = true ↔ kdOf L m ≠ 1 ∧ On F (pA L m) ∧ On F (pB L m) := by
  simp [cmk, onB_iff, and_assoc]
def nf (F : List Bool) : Nat := F.countP (fun x => !x)
theorem nf_set {F : List Bool} {n : Nat} (h : n < F.length) (ho : ¬ On F n) : nf F = nf (F.set n true) + 1 := by
  induction F generalizing n with
  | nil => simp at h
  | cons x F ih =>
    cases n with
    | zero =>
      have : x = false := by cases x; rfl; exact absurd rfl ho
      subst this
      simp [nf]
    | succ n =>
      have := ih (n := n) (by simpa using h) (by simpa [On] using ho)
      simp only [nf, List.set_cons_succ, List.countP_cons] at *
      omega
theorem nf_le (F : List Bool) : nf F ≤ F.length := List.countP_le_length
inductive InCh (ls : List (Nat × Nat)) : Nat → Nat → Prop
  | here {i : Nat} {p : Nat × Nat} : i ≠ 0 → ls[i]? = some p → InCh ls i p.1
  | next {i : Nat} {p : Nat × Nat} {m : Nat} : i ≠ 0 → ls[i]? = some p → InCh ls p.2 m → InCh ls i m
theorem InCh.snoc {ls : List (Nat × Nat)} {q : Nat × Nat} {i m : Nat} (h : InCh ls i m) : InCh (ls ++ [q]) i m := by
  have hg : ∀ {i : Nat} {p : Nat × Nat}, ls[i]? = some p → (ls ++ [q])[i]? = some p := by
    intro i p h
    rw [List.getElem?_append_left (by
      rcases Nat.lt_or_ge i ls.length with c | c
      · exact c
      · rw [List.getElem?_eq_none c] at h; cases h)]
    exact h
  induction h with
  | here h0 h1 => exact .here h0 (hg h1)
  | next h0 h1 _ ih => exact .next h0 (hg h1) ih
theorem InCh.open_ {ls : List (Nat × Nat)} {i m : Nat} {p : Nat × Nat} (h : InCh ls i m) (hp : ls[i]? = some p) : m = p.1 ∨ InCh ls p.2 m := by
  cases h with
  | here h0 h1 => rw [hp] at h1; cases h1; exact Or.inl rfl
  | next h0 h1 h2 => rw [hp] at h1; cases h1; exact Or.inr h2
theorem InCh.zero {ls : List (Nat × Nat)} {m : Nat} (h : InCh ls 0 m) : False := by
  cases h with
  | here h0 _ => exact h0 rfl
  | next h0 _ _ => exact h0 rfl
def Dp (L : List Tm) (m d : Nat) : Prop := d = pA L m ∨ d = pB L m ∨ (kdOf L m = 6 ∧ d = opn L m)
theorem Good.dp {L : List Tm} (h : Good L) {m d : Nat} (h1 : 1 ≤ m) (h2 : m ≤ L.length) (hd : Dp L m d) : d < m := by
  obtain ⟨p1, p2⟩ := h.parts h1 h2
  rcases hd with rfl | rfl | ⟨k, rfl⟩
  · exact p1
  · exact p2
  · exact (h.opn h1 h2 k).2
structure Lk (L : List Tm) (F : List Bool) (fs : List Nat) (ls : List (Nat × Nat)) (X : Nat → Nat → Prop) (s : Nat) : Prop where
  zero : On F 0
  lenF : F.length ≤ L.length + 1
  lenf : fs.length = F.length
  lenl : ls.length + s ≤ 3 * F.length
  lpos : 1 ≤ ls.length
  lnk : ∀ (i : Nat) (p : Nat × Nat), 1 ≤ i → ls[i]? = some p → 1 ≤ p.1 ∧ p.1 < F.length ∧ p.2 < i
  fst : ∀ (m x : Nat), fs[m]? = some x → x < ls.length
  wt : ∀ m d, 1 ≤ m → m < F.length → Dp L m d → X m d ∨ On F d ∨ InCh ls (fs.getD d 0) m
def none2 : Nat → Nat → Prop := fun _ _ => False
theorem lk_start (L : List Tm) : Lk L [true] [0] [(0, 0)] none2 0 := by
  refine ⟨rfl, by simp, rfl, by simp, by simp, fun i p h1 h2 => ?_, fun m x h => ?_, fun m d h1 h2 => by simp at h2; omega⟩
  · rw [List.getElem?_eq_none (by simp; omega)] at h2; cases h2
  · cases m with
    | zero => simp at h; subst h; simp
    | succ m => simp at h
theorem Lk.more {L : List Tm} {F : List Bool} {fs : List Nat} {ls : List (Nat × Nat)} (h : Lk L F fs ls none2 0) (hG : Good L) (hl : F.length ≤ L.length) (x : Bool) :
    Lk L (F ++ [x]) (fs ++ [0]) ls (fun m _ => m = F.length) 3 := by
  refine ⟨on_snoc.2 (Or.inl h.zero), by simp; omega, by simp [h.lenf], ?_, h.lpos, fun i p h1 h2 => ?_, fun m y hy => ?_, fun m d h1 h2 hd => ?_⟩
  · have := h.lenl; simp; omega
  · have := h.lnk i p h1 h2; simp; omega
  · rcases Nat.lt_or_ge m fs.length with c | c
    · rw [List.getElem?_append_left c] at hy; exact h.fst m y hy
    · rw [List.getElem?_append_right c] at hy
      rcases Nat.eq_or_lt_of_le c with e | e
      · rw [← e] at hy; simp at hy; subst hy; exact h.lpos
      · rw [List.getElem?_eq_none (by simp; omega)] at hy; cases hy
  · by_cases e : m = F.length
    · exact Or.inl e
    · simp at h2
      have hm : m < F.length := by omega
      have hdm := hG.dp h1 (by have := h.lenF; omega) hd
      rcases h.wt m d h1 hm hd with c | c | c
      · exact absurd c (by simp [none2])
      · exact Or.inr (Or.inl (on_snoc.2 (Or.inl c)))
      · refine Or.inr (Or.inr ?_)
        have : (fs ++ [0]).getD d 0 = fs.getD d 0 := by
          simp [List.getD, List.getElem?_append_left (show d < fs.length by rw [h.lenf]; omega)]
        rw [this]; exact c
def wtF (F : List Bool) (fs : List Nat) (ls : List (Nat × Nat)) (d : Nat) : List Nat := if onB F d = true then fs else fs.set d ls.length
def wtL (F : List Bool) (fs : List Nat) (ls : List (Nat × Nat)) (n d : Nat) : List (Nat × Nat) := if onB F d = true then ls else ls ++ [(n, fs.getD d 0)]
theorem Lk.wait {L : List Tm} {F : List Bool} {fs : List Nat} {ls : List (Nat × Nat)} {X : Nat → Nat → Prop} {s n d : Nat} (h : Lk L F fs ls X (s + 1)) (h1 : 1 ≤ n) (h2 : n < F.length) (hd : d < F.length) :
    Lk L F (wtF F fs ls d) (wtL F fs ls n d) (fun m e => X m e ∧ ¬ (m = n ∧ e = d)) s := by
  unfold wtF wtL
  by_cases c : onB F d = true
  · rw [if_pos c, if_pos c]
    have := h.lenl
    refine ⟨h.zero, h.lenF, h.lenf, by omega, h.lpos, h.lnk, h.fst, fun m e q1 q2 q3 => ?_⟩
    by_cases k : m = n ∧ e = d
    · rw [k.2]; exact Or.inr (Or.inl (onB_iff.1 c))
    · rcases h.wt m e q1 q2 q3 with a | a
      · exact Or.inl ⟨a, k⟩
      · exact Or.inr a
  · rw [if_neg c, if_neg c]
    have hfl := h.lenf
    have hdf : d < fs.length := by omega
    have hfd : fs.getD d 0 < ls.length := h.fst d _ (by simp [List.getD, List.getElem?_eq_getElem hdf])
    have hp := h.lpos
    have hl := h.lenl
    refine ⟨h.zero, h.lenF, by simp [hfl], by simp; omega, by simp, fun i p q1 q2 => ?_, fun m y hy => ?_, fun m e q1 q2 q3 => ?_⟩
    · rcases Nat.lt_or_ge i ls.length with r | r
      · rw [List.getElem?_append_left r] at q2; exact h.lnk i p q1 q2
      · rw [List.getElem?_append_right r] at q2
        rcases Nat.eq_or_lt_of_le r with e | e
        · rw [← e, Nat.sub_self] at q2; simp only [List.getElem?_cons_zero, Option.some.injEq] at q2; subst q2; exact ⟨h1, h2, by simp only []; omega⟩
        · rw [List.getElem?_eq_none (by simp; omega)] at q2; cases q2
    · rw [List.getElem?_set] at hy
      by_cases e : d = m
      · rw [if_pos e] at hy; simp at hy; obtain ⟨_, rfl⟩ := hy; simp
      · rw [if_neg e] at hy; have := h.fst m y hy; simp; omega
    · have hnew : ∀ y, y = d → (fs.set d ls.length).getD y 0 = ls.length := by
        rintro y rfl; simp [List.getD, hdf]
      have hlast : (ls ++ [(n, fs.getD d 0)])[ls.length]? = some (n, fs.getD d 0) := by simp
      by_cases k : m = n ∧ e = d
      · rw [k.1, hnew e k.2]
        exact Or.inr (Or.inr (.here (p := (n, fs.getD d 0)) (by omega) hlast))
      · rcases h.wt m e q1 q2 q3 with a | a | a
        · exact Or.inl ⟨a, k⟩
        · exact Or.inr (Or.inl a)
        · refine Or.inr (Or.inr ?_)
          by_cases ed : e = d
          · rw [hnew e ed]
            subst ed
            exact .next (by omega) hlast a.snoc
          · have : (fs.set d ls.length).getD e 0 = fs.getD e 0 := by
              simp [List.getD, Ne.symm ed]
            rw [this]; exact a.snoc
theorem Lk.weak {L : List Tm} {F : List Bool} {fs : List Nat} {ls : List (Nat × Nat)} {X : Nat → Nat → Prop} {s : Nat} (h : Lk L F fs ls X s) (hX : ∀ m d, 1 ≤ m → m < F.length → Dp L m d → X m d → False) : Lk L F fs ls none2 0 :=
  ⟨h.zero, h.lenF, h.lenf, by have := h.lenl; omega, h.lpos, h.lnk, h.fst, fun m d h1 h2 h3 => by
    rcases h.wt m d h1 h2 h3 with c | c
    · exact absurd c (hX m d h1 h2 h3)
    · exact Or.inr c⟩
theorem Lk.mark {L : List Tm} {F : List Bool} {fs : List Nat} {ls : List (Nat × Nat)} (h : Lk L F fs ls none2 0) {n : Nat} (hn : n < F.length) : Lk L (F.set n true) fs ls none2 0 := by
  refine ⟨(on_set hn).2 (Or.inr h.zero), by simpa using h.lenF, by simpa using h.lenf, by simpa using h.lenl, h.lpos, by simpa using h.lnk, h.fst, fun m d h1 h2 h3 => ?_⟩
  rcases h.wt m d h1 (by simpa using h2) h3 with c | c | c
  · exact Or.inl c
  · exact Or.inr (Or.inl ((on_set hn).2 (Or.inr c)))
  · exact Or.inr (Or.inr c)
structure Sm (L : List Tm) (K : Nat → Prop) (F : List Bool) (l : List Nat) (T : Nat → Prop) : Prop where
  sound : ∀ m, 1 ≤ m → On F m → Fol L K m
  psound : ∀ m ∈ l, Fol L K m ∧ m < F.length
  krng : ∀ m, K m → m < F.length
  known : ∀ m, 1 ≤ m → m < F.length → K m → On F m ∨ m ∈ l
  make : ∀ m, 1 ≤ m → m < F.length → ¬ T m → cmk L F m = true → On F m ∨ m ∈ l
  pair : ∀ m, 1 ≤ m → On F m → ¬ T m → kdOf L m = 3 → (On F (pA L m) ∨ pA L m ∈ l) ∧ (On F (pB L m) ∨ pB L m ∈ l)
  opens : ∀ m, 1 ≤ m → On F m → ¬ T m → kdOf L m = 6 → On F (opn L m) → On F (pB L m) ∨ pB L m ∈ l
def none1 : Nat → Prop := fun _ => False
theorem not_none1 (m : Nat) : ¬ none1 m := fun h => h
theorem sm_start (L : List Tm) : Sm L none1 [true] [] none1 := by
  have h0 : ∀ m, 1 ≤ m → ¬ On [true] m := fun m h c => by have := c.lt; simp at this; omega
  exact ⟨fun m h c => absurd c (h0 m h), by simp, fun m h => h.elim, fun m _ _ h => h.elim, fun m h c => by simp at c; omega, fun m h c => absurd c (h0 m h), fun m h c => absurd c (h0 m h)⟩
def lkA (L : List Tm) (F : List Bool) (m : Nat) : List Nat :=
  if onB F m = false then (if cmk L F m = true then [m] else [])
  else if kdOf L m = 3 then [pA L m, pB L m]
  else if kdOf L m = 6 ∧ onB F (opn L m) = true then [pB L m] else []
theorem lkA_len (L : List Tm) (F : List Bool) (m : Nat) : (lkA L F m).length ≤ 2 := by
  unfold lkA; split <;> split <;> try split
  all_goals simp
theorem Sm.look {L : List Tm} {K : Nat → Prop} {F : List Bool} {l : List Nat} {T T' : Nat → Prop} (h : Sm L K F l T) (hG : Good L) (hF : F.length ≤ L.length + 1) {m : Nat} (h1 : 1 ≤ m) (h2 : m < F.length) (hT : ∀ x, T x → x = m ∨ T' x) : Sm L K F (l ++ lkA L F m) T' := by
  have hp := hG.parts h1 (by omega)
  have hT2 : ∀ x, x ≠ m → ¬ T' x → ¬ T x := fun x hx ht c => by
    rcases hT x c with e | e
    · exact hx e
    · exact ht e
  have inl : ∀ {P : Prop} {x : Nat}, (P ∨ x ∈ l) → (P ∨ x ∈ l ++ lkA L F m) := fun h => h.imp id (fun c => List.mem_append_left _ c)
  refine ⟨h.sound, fun x hx => ?_, h.krng, fun x q1 q2 q3 => inl (h.known x q1 q2 q3), fun x q1 q2 q3 q4 => ?_, fun x q1 q2 q3 q4 => ?_, fun x q1 q2 q3 q4 q5 => ?_⟩
  · rcases List.mem_append.1 hx with c | c
    · exact h.psound x c
    · unfold lkA at c
      by_cases o : onB F m = false
      · rw [if_pos o] at c
        by_cases k : cmk L F m = true
        · rw [if_pos k] at c
          simp at c
          subst c
          obtain ⟨k1, k2, k3⟩ := cmk_iff.1 k
          exact ⟨.make h1 (by omega) k1 (fun z => h.sound _ (by omega) k2) (fun z => h.sound _ (by omega) k3), h2⟩
        · rw [if_neg k] at c; cases c
      · rw [if_neg o] at c
        have on : On F m := onB_iff.1 (by simpa using o)
        by_cases k : kdOf L m = 3
        · rw [if_pos k] at c
          simp at c
          rcases c with rfl | rfl
          · exact ⟨.pairA (h.sound _ h1 on) k, by omega⟩
          · exact ⟨.pairB (h.sound _ h1 on) k, by omega⟩
        · rw [if_neg k] at c
          by_cases k6 : kdOf L m = 6 ∧ onB F (opn L m) = true
          · rw [if_pos k6] at c
            simp at c
            subst c
            exact ⟨.opens (h.sound _ h1 on) k6.1 (h.sound _ (hG.opn h1 (by omega) k6.1).1 (onB_iff.1 k6.2)), by omega⟩
          · rw [if_neg k6] at c; cases c
  · by_cases e : x = m
    · subst e
      by_cases o : onB F x = false
      · refine Or.inr (List.mem_append_right _ ?_)
        simp [lkA, o, q4]
      · exact Or.inl (onB_iff.1 (by simpa using o))
    · exact inl (h.make x q1 q2 (hT2 x e q3) q4)
  · by_cases e : x = m
    · subst e
      have o : onB F x = true := onB_iff.2 q2
      have hm : lkA L F x = [pA L x, pB L x] := by simp [lkA, o, q4]
      rw [hm]
      exact ⟨Or.inr (by simp), Or.inr (by simp)⟩
    · have := h.pair x q1 q2 (hT2 x e q3) q4
      exact ⟨inl this.1, inl this.2⟩
  · by_cases e : x = m
    · subst e
      have o : onB F x = true := onB_iff.2 q2
      have o2 : onB F (opn L x) = true := onB_iff.2 q5
      have hm : lkA L F x = [pB L x] := by simp [lkA, o, o2, q4]
      rw [hm]
      exact Or.inr (by simp)
    · exact inl (h.opens x q1 q2 (hT2 x e q3) q4 q5)
theorem Sm.skip {L : List Tm} {K : Nat → Prop} {F : List Bool} {l : List Nat} {T : Nat → Prop} {n : Nat} (h : Sm L K F (l ++ [n]) T) (ho : On F n) : Sm L K F l T := by
  have inl : ∀ {x : Nat}, (On F x ∨ x ∈ l ++ [n]) → (On F x ∨ x ∈ l) := by
    intro x hx
    rcases hx with c | c
    · exact Or.inl c
    · rcases List.mem_append.1 c with c | c
      · exact Or.inr c
      · simp at c; subst c; exact Or.inl ho
  exact ⟨h.sound, fun m hm => h.psound m (List.mem_append_left _ hm), h.krng, fun m q1 q2 q3 => inl (h.known m q1 q2 q3), fun m q1 q2 q3 q4 => inl (h.make m q1 q2 q3 q4),
    fun m q1 q2 q3 q4 => ⟨inl (h.pair m q1 q2 q3 q4).1, inl (h.pair m q1 q2 q3 q4).2⟩, fun m q1 q2 q3 q4 q5 => inl (h.opens m q1 q2 q3 q4 q5)⟩
theorem Sm.mark {L : List Tm} {K : Nat → Prop} {F : List Bool} {fs : List Nat} {ls : List (Nat × Nat)} {l : List Nat} {n : Nat} (h : Sm L K F (l ++ [n]) none1) (hk : Lk L F fs ls none2 0) (ho : ¬ On F n) :
    Sm L K (F.set n true) l (fun m => m = n ∨ InCh ls (fs.getD n 0) m) := by
  obtain ⟨hfn, hn⟩ := h.psound n (by simp)
  have os := @on_set F n
  have inl : ∀ {x : Nat}, (On F x ∨ x ∈ l ++ [n]) → (On (F.set n true) x ∨ x ∈ l) := by
    intro x hx
    rcases hx with c | c
    · exact Or.inl ((os hn).2 (Or.inr c))
    · rcases List.mem_append.1 c with c | c
      · exact Or.inr c
      · simp at c; subst c; exact Or.inl ((os hn).2 (Or.inl rfl))
  have away : ∀ m d, 1 ≤ m → m < F.length → ¬ (m = n ∨ InCh ls (fs.getD n 0) m) → Dp L m d → On (F.set n true) d → On F d := by
    intro m d q1 q2 q3 q4 q5
    rcases (os hn).1 q5 with e | e
    · subst e
      rcases hk.wt m d q1 q2 q4 with c | c | c
      · exact c.elim
      · exact c
      · exact absurd (Or.inr c) q3
    · exact e
  refine ⟨fun m q1 q2 => ?_, fun m hm => ?_, fun m q => by simpa using h.krng m q, fun m q1 q2 q3 => inl (h.known m q1 (by simpa using q2) q3), fun m q1 q2 q3 q4 => ?_, fun m q1 q2 q3 q4 => ?_, fun m q1 q2 q3 q4 q5 => ?_⟩
  · rcases (os hn).1 q2 with e | e
    · rw [e]; exact hfn
    · exact h.sound m q1 e
  · have := h.psound m (List.mem_append_left _ hm)
    exact ⟨this.1, by simpa using this.2⟩
  · have q2' : m < F.length := by simpa using q2
    obtain ⟨k1, k2, k3⟩ := cmk_iff.1 q4
    exact inl (h.make m q1 q2' (not_none1 m) (cmk_iff.2 ⟨k1, away m _ q1 q2' q3 (Or.inl rfl) k2, away m _ q1 q2' q3 (Or.inr (Or.inl rfl)) k3⟩))
  · have on : On F m := by
      rcases (os hn).1 q2 with e | e
      · exact absurd (Or.inl e) q3
      · exact e
    have := h.pair m q1 on (not_none1 m) q4
    exact ⟨inl this.1, inl this.2⟩
  · have on : On F m := by
      rcases (os hn).1 q2 with e | e
      · exact absurd (Or.inl e) q3
      · exact e
    exact inl (h.opens m q1 on (not_none1 m) q4 (away m _ q1 on.lt q3 (Or.inr (Or.inr ⟨q4, rfl⟩)) q5))
theorem Sm.more {L : List Tm} {K : Nat → Prop} {F : List Bool} (h : Sm L K F [] none1) (hG : Good L) (hl : F.length ≤ L.length) (h1 : 1 ≤ F.length) : Sm L K (F ++ [cmk L F F.length]) [] none1 := by
  obtain ⟨p1, p2⟩ := hG.parts h1 hl
  have low : ∀ {d : Nat}, d < F.length → On (F ++ [cmk L F F.length]) d → On F d := fun hd c => by
    rcases on_snoc.1 c with c | c
    · exact c
    · omega
  refine ⟨fun m q1 q2 => ?_, by simp, fun m q => by have := h.krng m q; simp; omega, fun m q1 q2 q3 => ?_, fun m q1 q2 q3 q4 => ?_, fun m q1 q2 q3 q4 => ?_, fun m q1 q2 q3 q4 q5 => ?_⟩
  · rcases on_snoc.1 q2 with c | ⟨c, d⟩
    · exact h.sound m q1 c
    · rw [← c] at d p1 p2 hl
      obtain ⟨k1, k2, k3⟩ := cmk_iff.1 d
      exact .make q1 hl k1 (fun z => h.sound _ (by omega) (by rw [c] at k2; rw [c]; exact k2)) (fun z => h.sound _ (by omega) (by rw [c] at k3; rw [c]; exact k3))
  · rcases h.known m q1 (h.krng m q3) q3 with c | c
    · exact Or.inl (on_snoc.2 (Or.inl c))
    · cases c
  · obtain ⟨k1, k2, k3⟩ := cmk_iff.1 q4
    simp at q2
    have hp := hG.parts q1 (show m ≤ L.length by omega)
    have j2 := low (show pA L m < F.length by omega) k2
    have j3 := low (show pB L m < F.length by omega) k3
    by_cases e : m = F.length
    · exact Or.inl (on_snoc.2 (Or.inr ⟨e, by rw [← e]; exact cmk_iff.2 ⟨k1, j2, j3⟩⟩))
    · rcases h.make m q1 (by omega) q3 (cmk_iff.2 ⟨k1, j2, j3⟩) with c | c
      · exact Or.inl (on_snoc.2 (Or.inl c))
      · cases c
  · rcases on_snoc.1 q2 with c | ⟨c, d⟩
    · have := h.pair m q1 c q3 q4
      exact ⟨this.1.imp (fun a => on_snoc.2 (Or.inl a)) id, this.2.imp (fun a => on_snoc.2 (Or.inl a)) id⟩
    · rw [← c] at d
      obtain ⟨k1, k2, k3⟩ := cmk_iff.1 d
      exact ⟨Or.inl (on_snoc.2 (Or.inl k2)), Or.inl (on_snoc.2 (Or.inl k3))⟩
  · rcases on_snoc.1 q2 with c | ⟨c, d⟩
    · have hml : m ≤ L.length := by have := c.lt; omega
      have := (hG.opn q1 hml q4).2
      exact (h.opens m q1 c q3 q4 (low (by have := c.lt; omega) q5)).imp (fun a => on_snoc.2 (Or.inl a)) id
    · rw [← c] at d
      obtain ⟨k1, k2, k3⟩ := cmk_iff.1 d
      exact Or.inl (on_snoc.2 (Or.inl k3))
theorem Sm.learn {L : List Tm} {K K' : Nat → Prop} {F : List Bool} {l : List Nat} (h : Sm L K F [] none1) (hG : Good L) (hl : F.length = L.length + 1) (hr : ∀ m ∈ l, 1 ≤ m ∧ m < F.length) (hK : ∀ m, K' m ↔ K m ∨ m ∈ l) : Sm L K' F l none1 := by
  have inl : ∀ {P : Prop} {x : Nat}, (P ∨ x ∈ ([] : List Nat)) → (P ∨ x ∈ l) := fun h => h.imp id (fun c => by cases c)
  refine ⟨fun m q1 q2 => (h.sound m q1 q2).sub hG (fun x hx => (hK x).2 (Or.inl hx)), fun m hm => ⟨.known (hr m hm).1 (by have := (hr m hm).2; omega) ((hK m).2 (Or.inr hm)), (hr m hm).2⟩, fun m q => ?_, fun m q1 q2 q3 => ?_, fun m q1 q2 q3 q4 => inl (h.make m q1 q2 q3 q4), fun m q1 q2 q3 q4 => ⟨inl (h.pair m q1 q2 q3 q4).1, inl (h.pair m q1 q2 q3 q4).2⟩, fun m q1 q2 q3 q4 q5 => inl (h.opens m q1 q2 q3 q4 q5)⟩
  · rcases (hK m).1 q with c | c
    · exact h.krng m c
    · exact (hr m c).2
  · rcases (hK m).1 q3 with c | c
    · exact inl (h.known m q1 q2 c)
    · exact Or.inr c
theorem Sm.tells {L : List Tm} {K : Nat → Prop} {F : List Bool} (h : Sm L K F [] none1) (hG : Good L) (hl : F.length = L.length + 1) (h0 : On F 0) {m : Nat} (h1 : 1 ≤ m) : On F m ↔ Fol L K m := by
  constructor
  · exact h.sound m h1
  · intro f
    have no : ∀ {P : Prop} {x : Nat}, (P ∨ x ∈ ([] : List Nat)) → P := fun h => h.elim id (fun c => by cases c)
    have all : ∀ d, (d ≠ 0 → On F d) → On F d := fun d hd => by
      by_cases e : d = 0
      · rw [e]; exact h0
      · exact hd e
    refine f.least hG (S := On F) ⟨fun x q1 q2 q3 q4 q5 => no (h.make x q1 (by omega) (not_none1 x) (cmk_iff.2 ⟨q3, all _ q4, all _ q5⟩)), fun x q1 q2 q3 q4 => no (h.pair x q1 q3 (not_none1 x) q4).1, fun x q1 q2 q3 q4 => no (h.pair x q1 q3 (not_none1 x) q4).2, fun x q1 q2 q3 q4 q5 => no (h.opens x q1 q3 (not_none1 x) q4 q5)⟩ ?_
    exact fun x q1 q2 q3 => no (h.known x q1 (by omega) q3)
end Go.Proofs.Ytokdflbajnecpaa.Tn
