/- Texts joined: NTmPure NTmPureB NDdPure NTmAcr. -/
import Derived.Calls
/- Terms, stores of terms and their dags, as plain lists: nothing here speaks of the program. -/
namespace Go.Proofs.YtpcpcgagiapinaaGreatDoor.Tn
structure Tm where
  kd : Int
  n : Int
  a : Int
  b : Int
  deriving DecidableEq, Inhabited
def thr (N : Nat) (x : Int) : Bool := decide (1 ≤ x) && decide (x ≤ (N : Int))
theorem thr_iff {N : Nat} {x : Int} : thr N x = true ↔ 1 ≤ x ∧ x ≤ (N : Int) := by simp [thr]
theorem thr_false {N : Nat} {x : Int} : thr N x = false ↔ ¬ (1 ≤ x ∧ x ≤ (N : Int)) := by
  cases h : thr N x
  · simp only [true_iff]; intro c; rw [thr_iff.2 c] at h; cases h
  · simp [thr_iff.1 h]
def may (N : Nat) (t : Tm) : Bool :=
  if t.kd = 1 then decide (0 ≤ t.n) && decide (t.a = 0) && decide (t.b = 0)
  else if t.kd = 2 then decide (t.a = 0) && decide (t.b = 0)
  else if t.kd = 3 ∨ t.kd = 6 then decide (t.n = 0) && thr N t.a && thr N t.b
  else if t.kd = 4 then decide (0 ≤ t.n) && thr N t.a && (decide (t.b = 0) || thr N t.b)
  else if t.kd = 5 ∨ t.kd = 7 then decide (t.n = 0) && thr N t.a && decide (t.b = 0)
  else false
theorem thr_mono {N M : Nat} {x : Int} (h : thr N x = true) (hNM : N ≤ M) : thr M x = true := by
  have := thr_iff.1 h; exact thr_iff.2 (by omega)
theorem may_parts {N : Nat} {t : Tm} (h : may N t = true) : 0 ≤ t.a ∧ t.a ≤ N ∧ 0 ≤ t.b ∧ t.b ≤ N := by
  unfold may at h
  split at h
  · simp only [Bool.and_eq_true, decide_eq_true_eq] at h; omega
  · split at h
    · simp only [Bool.and_eq_true, decide_eq_true_eq] at h; omega
    · split at h
      · simp only [Bool.and_eq_true, decide_eq_true_eq, thr_iff] at h; omega
      · split at h
        · simp only [Bool.and_eq_true, Bool.or_eq_true, decide_eq_true_eq, thr_iff] at h; omega
        · split at h
          · simp only [Bool.and_eq_true, decide_eq_true_eq, thr_iff] at h; omega
          · cases h
theorem may_mono {N M : Nat} {t : Tm} (h : may N t = true) (hNM : N ≤ M) : may M t = true := by
  unfold may at h ⊢
  split at h
  · rename_i c1; rw [if_pos c1]; exact h
  · rename_i c1; rw [if_neg c1]
    split at h
    · rename_i c2; rw [if_pos c2]; exact h
    · rename_i c2; rw [if_neg c2]
      split at h
      · rename_i c3; rw [if_pos c3]; simp only [Bool.and_eq_true] at h ⊢; exact ⟨⟨h.1.1, thr_mono h.1.2 hNM⟩, thr_mono h.2 hNM⟩
      · rename_i c3; rw [if_neg c3]
        split at h
        · rename_i c4; rw [if_pos c4]; simp only [Bool.and_eq_true, Bool.or_eq_true] at h ⊢; exact ⟨⟨h.1.1, thr_mono h.1.2 hNM⟩, h.2.imp id (fun q => thr_mono q hNM)⟩
        · rename_i c4; rw [if_neg c4]
          split at h
          · rename_i c5; rw [if_pos c5]; simp only [Bool.and_eq_true] at h ⊢; exact ⟨⟨h.1.1, thr_mono h.1.2 hNM⟩, h.2⟩
          · cases h
def num (L : List Tm) (t : Tm) : Nat := if t ∈ L then L.idxOf t + 1 else 0
theorem num_none {L : List Tm} {t : Tm} (h : t ∉ L) : num L t = 0 := by simp [num, h]
theorem num_le (L : List Tm) (t : Tm) : num L t ≤ L.length := by
  unfold num; split
  · rename_i h; exact List.idxOf_lt_length_iff.2 h
  · omega
theorem num_get {L : List Tm} {t : Tm} (h : t ∈ L) : L[num L t - 1]? = some t ∧ 1 ≤ num L t := by
  have := List.idxOf_lt_length_iff.2 h
  simp only [num, h, if_true, Nat.add_sub_cancel]
  refine ⟨?_, by omega⟩
  rw [List.getElem?_eq_getElem this, List.getElem_idxOf]
theorem num_append {L : List Tm} {t u : Tm} (h : t ∈ L) : num (L ++ [u]) t = num L t := by
  simp [num, h, List.idxOf_append]
theorem num_last {L : List Tm} {t : Tm} (h : t ∉ L) : num (L ++ [t]) t = L.length + 1 := by
  simp [num, List.idxOf_append, h]
def mkL (L : List Tm) (t : Tm) : List Tm := if may L.length t = true ∧ t ∉ L ∧ L.length < 1048576 then L ++ [t] else L
def mkN (L : List Tm) (t : Tm) : Nat := if may L.length t = true then (if t ∈ L then num L t else if L.length < 1048576 then L.length + 1 else 0) else 0
def mkE (L : List Tm) (t : Tm) : Int := if may L.length t = true then (if t ∈ L then 0 else if L.length < 1048576 then 0 else 3) else 1
structure Good (L : List Tm) : Prop where
  may : ∀ i t, L[i]? = some t → may i t = true
  nodup : L.Nodup
  len : L.length ≤ 1048576
theorem good_nil : Good [] := ⟨by simp, List.nodup_nil, by simp⟩
theorem Good.made {L : List Tm} (h : Good L) (t : Tm) : Good (mkL L t) := by
  unfold mkL
  split
  · rename_i c
    obtain ⟨c1, c2, c3⟩ := c
    refine ⟨fun i u hu => ?_, ?_, by simp; omega⟩
    · rcases Nat.lt_or_ge i L.length with q | q
      · rw [List.getElem?_append_left q] at hu; exact h.may i u hu
      · rw [List.getElem?_append_right q] at hu
        have : i - L.length = 0 := by
          rcases Nat.eq_zero_or_pos (i - L.length) with e | e
          · exact e
          · rw [List.getElem?_eq_none (by simp; omega)] at hu; cases hu
        rw [this] at hu
        simp at hu
        subst hu
        exact may_mono c1 q
    · rw [List.nodup_append]
      refine ⟨h.nodup, by simp, ?_⟩
      intro x hx y hy e
      simp at hy
      subst hy
      subst e
      exact c2 hx
  · exact h
theorem mkL_len (L : List Tm) (t : Tm) : (mkL L t).length ≤ L.length + 1 := by unfold mkL; split <;> simp
theorem mkL_le (L : List Tm) (t : Tm) : L.length ≤ (mkL L t).length := by unfold mkL; split <;> simp
theorem mkL_prefix (L : List Tm) (t : Tm) : ∃ r, mkL L t = L ++ r := by
  unfold mkL; split
  · exact ⟨_, rfl⟩
  · exact ⟨[], by simp⟩
theorem mk_ok {L : List Tm} {t : Tm} (h : may L.length t = true) (hl : L.length < 1048576) : mkE L t = 0 ∧ mkN L t = num (mkL L t) t ∧ t ∈ mkL L t := by
  unfold mkE mkN mkL
  simp only [h, if_true, true_and]
  by_cases c : t ∈ L
  · simp [c]
  · simp [c, hl, num_last c]
def tmAt (L : List Tm) (m : Nat) : Tm := L.getD (m - 1) default
def pA (L : List Tm) (m : Nat) : Nat := (tmAt L m).a.toNat
def pB (L : List Tm) (m : Nat) : Nat := (tmAt L m).b.toNat
theorem Good.parts {L : List Tm} (h : Good L) {m : Nat} (h1 : 1 ≤ m) (h2 : m ≤ L.length) : pA L m < m ∧ pB L m < m := by
  have hlt : m - 1 < L.length := by omega
  have e : L[m - 1]? = some (L.getD (m - 1) default) := by simp [List.getD, List.getElem?_eq_getElem hlt]
  have := may_parts (h.may _ _ e)
  unfold pA pB tmAt
  omega
def ordF (L : List Tm) : Nat → Nat → List Nat → List Nat
  | 0, _, o => o
  | f + 1, n, o => if n = 0 ∨ n ∈ o then o else ordF L f (pB L n) (ordF L f (pA L n) o) ++ [n]
def pos (o : List Nat) (k : Nat) : Nat := if k ∈ o then o.idxOf k + 1 else 0
def tr (o : List Nat) (t : Tm) : Tm := ⟨t.kd, t.n, pos o t.a.toNat, pos o t.b.toNat⟩
def outs (L : List Tm) (o : List Nat) : List Tm := o.map fun m => tr o (tmAt L m)
structure Told (L : List Tm) (o : List Nat) : Prop where
  nodup : o.Nodup
  rng : ∀ m ∈ o, 1 ≤ m ∧ m ≤ L.length
  part : ∀ i m, o[i]? = some m → (pA L m = 0 ∨ pA L m ∈ o.take i) ∧ (pB L m = 0 ∨ pB L m ∈ o.take i)
theorem told_nil (L : List Tm) : Told L [] := ⟨List.nodup_nil, by simp, by simp⟩
theorem Told.snoc {L : List Tm} {o : List Nat} (h : Told L o) {n : Nat} (h1 : 1 ≤ n) (h2 : n ≤ L.length) (ho : n ∉ o) (hA : pA L n = 0 ∨ pA L n ∈ o) (hB : pB L n = 0 ∨ pB L n ∈ o) : Told L (o ++ [n]) := by
  refine ⟨?_, ?_, ?_⟩
  · rw [List.nodup_append]
    refine ⟨h.nodup, by simp, ?_⟩
    intro x hx y hy e
    simp at hy
    subst hy
    subst e
    exact ho hx
  · intro m hm
    rcases List.mem_append.1 hm with hm | hm
    · exact h.rng m hm
    · simp at hm; subst hm; exact ⟨h1, h2⟩
  · intro i m hi
    rcases Nat.lt_or_ge i o.length with q | q
    · rw [List.getElem?_append_left q] at hi
      rw [List.take_append_of_le_length (by omega)]
      exact h.part i m hi
    · rw [List.getElem?_append_right q] at hi
      have : i - o.length = 0 := by
        rcases Nat.eq_zero_or_pos (i - o.length) with e | e
        · exact e
        · rw [List.getElem?_eq_none (by simp; omega)] at hi; cases hi
      have hio : i = o.length := by omega
      subst hio
      simp at hi
      subst hi
      simp only [List.take_left']
      exact ⟨hA, hB⟩
theorem nodup_len : ∀ (N : Nat) (o : List Nat), o.Nodup → (∀ m ∈ o, 1 ≤ m ∧ m ≤ N) → o.length ≤ N
  | 0, o, _, h => by
    cases o with
    | nil => simp
    | cons x r => have := h x (by simp); omega
  | N + 1, o, hn, h => by
    have h1 : (o.erase (N + 1)).length ≤ N := nodup_len N _ (hn.erase _) (fun m hm => by
      have hm2 := List.mem_of_mem_erase hm
      have := h m hm2
      have : m ≠ N + 1 := by
        rintro rfl
        exact (List.Nodup.not_mem_erase hn) hm
      omega)
    have := List.length_erase_of_mem (l := o) (a := N + 1)
    by_cases hc : N + 1 ∈ o
    · have := this hc; omega
    · rw [List.erase_of_not_mem hc] at h1; omega
theorem Told.len {L : List Tm} {o : List Nat} (h : Told L o) : o.length ≤ L.length := nodup_len _ _ h.nodup h.rng
theorem Told.zero {L : List Tm} {o : List Nat} (h : Told L o) : 0 ∉ o := fun c => by have := h.rng 0 c; omega
end Go.Proofs.YtpcpcgagiapinaaGreatDoor.Tn

/- Dags of terms: how they are worked off a stack, what is within them, what is the same in two stores. -/
namespace Go.Proofs.YtpcpcgagiapinaaGreatDoor.Tn
def fin (L : List Tm) (f : Nat) : List Nat → List Nat → List Nat
  | [], o => o
  | m :: st, o => fin L f st (ordF L f m o)
structure Begun (L : List Tm) (stk o : List Nat) : Prop where
  rng : ∀ m ∈ stk, 1 ≤ m ∧ m ≤ L.length ∧ m ∉ o
  desc : stk.Pairwise (fun x y => y < x)
theorem Begun.len {L : List Tm} {stk o : List Nat} (h : Begun L stk o) : stk.length ≤ L.length :=
  nodup_len _ _ (h.desc.imp (fun {a b} hab => by omega)) (fun m hm => ⟨(h.rng m hm).1, (h.rng m hm).2.1⟩)
theorem Begun.push {L : List Tm} {stk o : List Nat} {m p : Nat} (h : Begun L (stk ++ [m]) o) (h1 : 1 ≤ p) (h2 : p < m) (ho : p ∉ o) : Begun L (stk ++ [m] ++ [p]) o := by
  have hm := h.rng m (by simp)
  refine ⟨fun x hx => ?_, ?_⟩
  · rcases List.mem_append.1 hx with hx | hx
    · exact h.rng x hx
    · simp at hx; subst hx; exact ⟨h1, by omega, ho⟩
  · rw [List.pairwise_append]
    refine ⟨h.desc, by simp, ?_⟩
    intro x hx y hy
    simp at hy
    subst hy
    rcases List.mem_append.1 hx with hx | hx
    · have := (List.pairwise_append.1 h.desc).2.2 x hx m (by simp); omega
    · simp at hx; omega
theorem Begun.pop {L : List Tm} {stk o : List Nat} {m : Nat} (h : Begun L (stk ++ [m]) o) : Begun L stk (o ++ [m]) := by
  refine ⟨fun x hx => ?_, (List.pairwise_append.1 h.desc).1⟩
  have := h.rng x (List.mem_append_left _ hx)
  have hlt := (List.pairwise_append.1 h.desc).2.2 x hx m (by simp)
  refine ⟨this.1, this.2.1, ?_⟩
  intro c
  rcases List.mem_append.1 c with c | c
  · exact this.2.2 c
  · simp at c; omega
structure Maps (L R : List Tm) (φ : Nat → Nat) : Prop where
  zero : φ 0 = 0
  rng : ∀ m, 1 ≤ m → m ≤ L.length → 1 ≤ φ m ∧ φ m ≤ R.length
  inj : ∀ m k, m ≤ L.length → k ≤ L.length → φ m = φ k → m = k
  at_ : ∀ m, 1 ≤ m → m ≤ L.length → (tmAt R (φ m)).kd = (tmAt L m).kd ∧ (tmAt R (φ m)).n = (tmAt L m).n ∧ pA R (φ m) = φ (pA L m) ∧ pB R (φ m) = φ (pB L m)
theorem Maps.mem {L R : List Tm} {φ : Nat → Nat} (h : Maps L R φ) {o : List Nat} (ho : ∀ m ∈ o, m ≤ L.length) {k : Nat} (hk : k ≤ L.length) : φ k ∈ o.map φ ↔ k ∈ o := by
  constructor
  · intro c
    obtain ⟨x, hx, e⟩ := List.mem_map.1 c
    rw [← h.inj x k (ho x hx) hk e]; exact hx
  · exact fun c => List.mem_map_of_mem c
theorem Good.tmAt_inj {L : List Tm} (h : Good L) {m k : Nat} (h1 : 1 ≤ m) (h2 : m ≤ L.length) (k1 : 1 ≤ k) (k2 : k ≤ L.length) (e : tmAt L m = tmAt L k) : m = k := by
  have a1 : m - 1 < L.length := by omega
  have a2 : k - 1 < L.length := by omega
  have e1 : tmAt L m = L[m - 1] := by simp [tmAt, List.getD, List.getElem?_eq_getElem a1]
  have e2 : tmAt L k = L[k - 1] := by simp [tmAt, List.getD, List.getElem?_eq_getElem a2]
  rw [e1, e2] at e
  have := (List.getElem_inj h.nodup).1 e
  omega
theorem Good.tmAt_parts {L : List Tm} (h : Good L) {m : Nat} (h1 : 1 ≤ m) (h2 : m ≤ L.length) : (tmAt L m).a = (pA L m : Nat) ∧ (tmAt L m).b = (pB L m : Nat) := by
  have a1 : m - 1 < L.length := by omega
  have e : L[m - 1]? = some (tmAt L m) := by simp [tmAt, List.getD, List.getElem?_eq_getElem a1]
  have := may_parts (h.may _ _ e)
  unfold pA pB
  omega
end Go.Proofs.YtpcpcgagiapinaaGreatDoor.Tn

/- What follows from known terms, as sets of numbers; and what a list of marks, with links between terms, must keep to tell it. Nothing here speaks of the program. -/
namespace Go.Proofs.YtpcpcgagiapinaaGreatDoor.Tn
def kdOf (L : List Tm) (m : Nat) : Int := (tmAt L m).kd
def opn (L : List Tm) (m : Nat) : Nat := if kdOf L (pA L m) = 5 then pA L (pA L m) else pA L m
inductive Fol (L : List Tm) (K : Nat → Prop) : Nat → Prop
  | known {m : Nat} : 1 ≤ m → m ≤ L.length → K m → Fol L K m
  | make {m : Nat} : 1 ≤ m → m ≤ L.length → kdOf L m ≠ 1 → (pA L m ≠ 0 → Fol L K (pA L m)) → (pB L m ≠ 0 → Fol L K (pB L m)) → Fol L K m
  | pairA {m : Nat} : Fol L K m → kdOf L m = 3 → Fol L K (pA L m)
  | pairB {m : Nat} : Fol L K m → kdOf L m = 3 → Fol L K (pB L m)
  | opens {m : Nat} : Fol L K m → kdOf L m = 6 → Fol L K (opn L m) → Fol L K (pB L m)
theorem tmAt_get {L : List Tm} {m : Nat} (h1 : 1 ≤ m) (h2 : m ≤ L.length) : L[m - 1]? = some (tmAt L m) := by
  simp [tmAt, List.getD, List.getElem?_eq_getElem (show m - 1 < L.length by omega)]
theorem goodAt {L : List Tm} (h : Good L) {m : Nat} (h1 : 1 ≤ m) (h2 : m ≤ L.length) : may (m - 1) (tmAt L m) = true := h.may _ _ (tmAt_get h1 h2)
theorem Good.pos2 {L : List Tm} (h : Good L) {m : Nat} (h1 : 1 ≤ m) (h2 : m ≤ L.length) (hk : kdOf L m = 3 ∨ kdOf L m = 6) : 1 ≤ pA L m ∧ 1 ≤ pB L m := by
  have hm := goodAt h h1 h2
  unfold kdOf at hk
  unfold Go.Proofs.YtpcpcgagiapinaaGreatDoor.Tn.may at hm
  rw [if_neg (by rcases hk with h | h <;> rw [h] <;> decide), if_neg (by rcases hk with h | h <;> rw [h] <;> decide), if_pos hk] at hm
  simp only [Bool.and_eq_true, decide_eq_true_eq, thr_iff] at hm
  unfold pA pB
  omega
theorem Good.pos5 {L : List Tm} (h : Good L) {m : Nat} (h1 : 1 ≤ m) (h2 : m ≤ L.length) (hk : kdOf L m = 5) : 1 ≤ pA L m := by
  have hm := goodAt h h1 h2
  unfold kdOf at hk
  unfold Go.Proofs.YtpcpcgagiapinaaGreatDoor.Tn.may at hm
  rw [if_neg (by rw [hk]; decide), if_neg (by rw [hk]; decide), if_neg (by rw [hk]; decide), if_neg (by rw [hk]; decide), if_pos (Or.inl hk)] at hm
  simp only [Bool.and_eq_true, decide_eq_true_eq, thr_iff] at hm
  unfold pA
  omega
theorem Good.opn {L : List Tm} (h : Good L) {m : Nat} (h1 : 1 ≤ m) (h2 : m ≤ L.length) (hk : kdOf L m = 6) : 1 ≤ opn L m ∧ opn L m < m := by
  obtain ⟨a1, _⟩ := h.pos2 h1 h2 (Or.inr hk)
  obtain ⟨p1, _⟩ := h.parts h1 h2
  unfold Go.Proofs.YtpcpcgagiapinaaGreatDoor.Tn.opn
  split
  · rename_i c
    have := h.pos5 a1 (by omega) c
    have := (h.parts a1 (by omega)).1
    omega
  · omega
theorem Fol.rng {L : List Tm} {K : Nat → Prop} (hG : Good L) {m : Nat} (h : Fol L K m) : 1 ≤ m ∧ m ≤ L.length := by
  induction h with
  | known h1 h2 _ => exact ⟨h1, h2⟩
  | make h1 h2 _ _ _ _ _ => exact ⟨h1, h2⟩
  | pairA _ hk ih => have := hG.pos2 ih.1 ih.2 (Or.inl hk); have := hG.parts ih.1 ih.2; omega
  | pairB _ hk ih => have := hG.pos2 ih.1 ih.2 (Or.inl hk); have := hG.parts ih.1 ih.2; omega
  | opens _ hk _ ih _ => have := hG.pos2 ih.1 ih.2 (Or.inr hk); have := hG.parts ih.1 ih.2; omega
structure Clo (L : List Tm) (S : Nat → Prop) : Prop where
  make : ∀ m, 1 ≤ m → m ≤ L.length → kdOf L m ≠ 1 → (pA L m ≠ 0 → S (pA L m)) → (pB L m ≠ 0 → S (pB L m)) → S m
  pairA : ∀ m, 1 ≤ m → m ≤ L.length → S m → kdOf L m = 3 → S (pA L m)
  pairB : ∀ m, 1 ≤ m → m ≤ L.length → S m → kdOf L m = 3 → S (pB L m)
  opens : ∀ m, 1 ≤ m → m ≤ L.length → S m → kdOf L m = 6 → S (opn L m) → S (pB L m)
theorem Fol.least {L : List Tm} {K S : Nat → Prop} (hG : Good L) (hc : Clo L S) (hk : ∀ m, 1 ≤ m → m ≤ L.length → K m → S m) {m : Nat} (h : Fol L K m) : S m := by
  induction h with
  | known h1 h2 h3 => exact hk _ h1 h2 h3
  | make h1 h2 h3 _ _ i1 i2 => exact hc.make _ h1 h2 h3 i1 i2
  | pairA h1 h2 i => exact hc.pairA _ (h1.rng hG).1 (h1.rng hG).2 i h2
  | pairB h1 h2 i => exact hc.pairB _ (h1.rng hG).1 (h1.rng hG).2 i h2
  | opens h1 h2 h3 i1 i2 => exact hc.opens _ (h1.rng hG).1 (h1.rng hG).2 i1 h2 i2
theorem Fol.clo (L : List Tm) (K : Nat → Prop) : Clo L (Fol L K) :=
  ⟨fun _ h1 h2 h3 h4 h5 => .make h1 h2 h3 h4 h5, fun _ _ _ h k => .pairA h k, fun _ _ _ h k => .pairB h k, fun _ _ _ h k o => .opens h k o⟩
theorem Fol.mono {L : List Tm} {K K' : Nat → Prop} (hG : Good L) (h : ∀ m, 1 ≤ m → m ≤ L.length → K m → Fol L K' m) {m : Nat} (f : Fol L K m) : Fol L K' m := f.least hG (Fol.clo L K') h
theorem Fol.sub {L : List Tm} {K K' : Nat → Prop} (hG : Good L) (h : ∀ m, K m → K' m) {m : Nat} (f : Fol L K m) : Fol L K' m := f.mono hG fun _ h1 h2 k => .known h1 h2 (h _ k)
def On (F : List Bool) (m : Nat) : Prop := F[m]? = some true
theorem On.lt {F : List Bool} {m : Nat} (h : On F m) : m < F.length := by
  rcases Nat.lt_or_ge m F.length with c | c
  · exact c
  · unfold On at h; rw [List.getElem?_eq_none c] at h; cases h
theorem on_set {F : List Bool} {n m : Nat} (hn : n < F.length) : On (F.set n true) m ↔ m = n ∨ On F m := by
  unfold On
  rw [List.getElem?_set]
  by_cases e : n = m
  · subst e; simp [hn]
  · simp [e, Ne.symm e]
theorem on_snoc {F : List Bool} {x : Bool} {m : Nat} : On (F ++ [x]) m ↔ On F m ∨ (m = F.length ∧ x = true) := by
  unfold On
  rcases Nat.lt_or_ge m F.length with c | c
  · rw [List.getElem?_append_left c]
    constructor
    · exact Or.inl
    · rintro (h | ⟨h, _⟩)
      · exact h
      · omega
  · rw [List.getElem?_append_right c, List.getElem?_eq_none c]
    rcases Nat.eq_or_lt_of_le c with d | d
    · rw [← d]; simp
    · rw [List.getElem?_eq_none (by simp; omega)]; simp; omega
def onB (F : List Bool) (m : Nat) : Bool := F.getD m false
theorem onB_iff {F : List Bool} {m : Nat} : onB F m = true ↔ On F m := by
  unfold onB On
  cases h : F[m]? <;> simp [List.getD, h]
def cmk (L : List Tm) (F : List Bool) (m : Nat) : Bool := !decide (kdOf L m = 1) && onB F (pA L m) && onB F (pB L m)
theorem cmk_iff {L : List Tm} {F : List Bool} {m : Nat} : cmk L F m = true ↔ kdOf L m ≠ 1 ∧ On F (pA L m) ∧ On F (pB L m) := by
  simp [cmk, onB_iff, and_assoc]
def nf (F : List Bool) : Nat := F.countP (fun x => !x)
theorem nf_set {F : List Bool} {n : Nat} (h : n < F.length) (ho : ¬ On F n) : nf F = nf (F.set n true) + 1 := by
  induction F generalizing n with
  | nil => simp at h
  | cons x F ih =>
    cases n with
    | zero =>
      have : x = false := by cases x; rfl; exact absurd rfl ho
      subst this
      simp [nf]
    | succ n =>
      have := ih (n := n) (by simpa using h) (by simpa [On] using ho)
      simp only [nf, List.set_cons_succ, List.countP_cons] at *
      omega
theorem nf_le (F : List Bool) : nf F ≤ F.length := List.countP_le_length
inductive InCh (ls : List (Nat × Nat)) : Nat → Nat → Prop
  | here {i : Nat} {p : Nat × Nat} : i ≠ 0 → ls[i]? = some p → InCh ls i p.1
  | next {i : Nat} {p : Nat × Nat} {m : Nat} : i ≠ 0 → ls[i]? = some p → InCh ls p.2 m → InCh ls i m
theorem InCh.snoc {ls : List (Nat × Nat)} {q : Nat × Nat} {i m : Nat} (h : InCh ls i m) : InCh (ls ++ [q]) i m := by
  have hg : ∀ {i : Nat} {p : Nat × Nat}, ls[i]? = some p → (ls ++ [q])[i]? = some p := by
    intro i p h
    rw [List.getElem?_append_left (by
      rcases Nat.lt_or_ge i ls.length with c | c
      · exact c
      · rw [List.getElem?_eq_none c] at h; cases h)]
    exact h
  induction h with
  | here h0 h1 => exact .here h0 (hg h1)
  | next h0 h1 _ ih => exact .next h0 (hg h1) ih
theorem InCh.open_ {ls : List (Nat × Nat)} {i m : Nat} {p : Nat × Nat} (h : InCh ls i m) (hp : ls[i]? = some p) : m = p.1 ∨ InCh ls p.2 m := by
  cases h with
  | here h0 h1 => rw [hp] at h1; cases h1; exact Or.inl rfl
  | next h0 h1 h2 => rw [hp] at h1; cases h1; exact Or.inr h2
theorem InCh.zero {ls : List (Nat × Nat)} {m : Nat} (h : InCh ls 0 m) : False := by
  cases h with
  | here h0 _ => exact h0 rfl
  | next h0 _ _ => exact h0 rfl
def Dp (L : List Tm) (m d : Nat) : Prop := d = pA L m ∨ d = pB L m ∨ (kdOf L m = 6 ∧ d = opn L m)
theorem Good.dp {L : List Tm} (h : Good L) {m d : Nat} (h1 : 1 ≤ m) (h2 : m ≤ L.length) (hd : Dp L m d) : d < m := by
  obtain ⟨p1, p2⟩ := h.parts h1 h2
  rcases hd with rfl | rfl | ⟨k, rfl⟩
  · exact p1
  · exact p2
  · exact (h.opn h1 h2 k).2
structure Lk (L : List Tm) (F : List Bool) (fs : List Nat) (ls : List (Nat × Nat)) (X : Nat → Nat → Prop) (s : Nat) : Prop where
  zero : On F 0
  lenF : F.length ≤ L.length + 1
  lenf : fs.length = F.length
  lenl : ls.length + s ≤ 3 * F.length
  lpos : 1 ≤ ls.length
  lnk : ∀ (i : Nat) (p : Nat × Nat), 1 ≤ i → ls[i]? = some p → 1 ≤ p.1 ∧ p.1 < F.length ∧ p.2 < i
  fst : ∀ (m x : Nat), fs[m]? = some x → x < ls.length
  wt : ∀ m d, 1 ≤ m → m < F.length → Dp L m d → X m d ∨ On F d ∨ InCh ls (fs.getD d 0) m
def none2 : Nat → Nat → Prop := fun _ _ => False
theorem lk_start (L : List Tm) : Lk L [true] [0] [(0, 0)] none2 0 := by
  refine ⟨rfl, by simp, rfl, by simp, by simp, fun i p h1 h2 => ?_, fun m x h => ?_, fun m d h1 h2 => by simp at h2; omega⟩
  · rw [List.getElem?_eq_none (by simp; omega)] at h2; cases h2
  · cases m with
    | zero => simp at h; subst h; simp
    | succ m => simp at h
theorem Lk.more {L : List Tm} {F : List Bool} {fs : List Nat} {ls : List (Nat × Nat)} (h : Lk L F fs ls none2 0) (hG : Good L) (hl : F.length ≤ L.length) (x : Bool) :
    Lk L (F ++ [x]) (fs ++ [0]) ls (fun m _ => m = F.length) 3 := by
  refine ⟨on_snoc.2 (Or.inl h.zero), by simp; omega, by simp [h.lenf], ?_, h.lpos, fun i p h1 h2 => ?_, fun m y hy => ?_, fun m d h1 h2 hd => ?_⟩
  · have := h.lenl; simp; omega
  · have := h.lnk i p h1 h2; simp; omega
  · rcases Nat.lt_or_ge m fs.length with c | c
    · rw [List.getElem?_append_left c] at hy; exact h.fst m y hy
    · rw [List.getElem?_append_right c] at hy
      rcases Nat.eq_or_lt_of_le c with e | e
      · rw [← e] at hy; simp at hy; subst hy; exact h.lpos
      · rw [List.getElem?_eq_none (by simp; omega)] at hy; cases hy
  · by_cases e : m = F.length
    · exact Or.inl e
    · simp at h2
      have hm : m < F.length := by omega
      have hdm := hG.dp h1 (by have := h.lenF; omega) hd
      rcases h.wt m d h1 hm hd with c | c | c
      · exact absurd c (by simp [none2])
      · exact Or.inr (Or.inl (on_snoc.2 (Or.inl c)))
      · refine Or.inr (Or.inr ?_)
        have : (fs ++ [0]).getD d 0 = fs.getD d 0 := by
          simp [List.getD, List.getElem?_append_left (show d < fs.length by rw [h.lenf]; omega)]
        rw [this]; exact c
def wtF (F : List Bool) (fs : List Nat) (ls : List (Nat × Nat)) (d : Nat) : List Nat := if onB F d = true then fs else fs.set d ls.length
def wtL (F : List Bool) (fs : List Nat) (ls : List (Nat × Nat)) (n d : Nat) : List (Nat × Nat) := if onB F d = true then ls else ls ++ [(n, fs.getD d 0)]
theorem Lk.wait {L : List Tm} {F : List Bool} {fs : List Nat} {ls : List (Nat × Nat)} {X : Nat → Nat → Prop} {s n d : Nat} (h : Lk L F fs ls X (s + 1)) (h1 : 1 ≤ n) (h2 : n < F.length) (hd : d < F.length) :
    Lk L F (wtF F fs ls d) (wtL F fs ls n d) (fun m e => X m e ∧ ¬ (m = n ∧ e = d)) s := by
  unfold wtF wtL
  by_cases c : onB F d = true
  · rw [if_pos c, if_pos c]
    have := h.lenl
    refine ⟨h.zero, h.lenF, h.lenf, by omega, h.lpos, h.lnk, h.fst, fun m e q1 q2 q3 => ?_⟩
    by_cases k : m = n ∧ e = d
    · rw [k.2]; exact Or.inr (Or.inl (onB_iff.1 c))
    · rcases h.wt m e q1 q2 q3 with a | a
      · exact Or.inl ⟨a, k⟩
      · exact Or.inr a
  · rw [if_neg c, if_neg c]
    have hfl := h.lenf
    have hdf : d < fs.length := by omega
    have hfd : fs.getD d 0 < ls.length := h.fst d _ (by simp [List.getD, List.getElem?_eq_getElem hdf])
    have hp := h.lpos
    have hl := h.lenl
    refine ⟨h.zero, h.lenF, by simp [hfl], by simp; omega, by simp, fun i p q1 q2 => ?_, fun m y hy => ?_, fun m e q1 q2 q3 => ?_⟩
    · rcases Nat.lt_or_ge i ls.length with r | r
      · rw [List.getElem?_append_left r] at q2; exact h.lnk i p q1 q2
      · rw [List.getElem?_append_right r] at q2
        rcases Nat.eq_or_lt_of_le r with e | e
        · rw [← e, Nat.sub_self] at q2; simp only [List.getElem?_cons_zero, Option.some.injEq] at q2; subst q2; exact ⟨h1, h2, by simp only []; omega⟩
        · rw [List.getElem?_eq_none (by simp; omega)] at q2; cases q2
    · rw [List.getElem?_set] at hy
      by_cases e : d = m
      · rw [if_pos e] at hy; simp at hy; obtain ⟨_, rfl⟩ := hy; simp
      · rw [if_neg e] at hy; have := h.fst m y hy; simp; omega
    · have hnew : ∀ y, y = d → (fs.set d ls.length).getD y 0 = ls.length := by
        rintro y rfl; simp [List.getD, hdf]
      have hlast : (ls ++ [(n, fs.getD d 0)])[ls.length]? = some (n, fs.getD d 0) := by simp
      by_cases k : m = n ∧ e = d
      · rw [k.1, hnew e k.2]
        exact Or.inr (Or.inr (.here (p := (n, fs.getD d 0)) (by omega) hlast))
      · rcases h.wt m e q1 q2 q3 with a | a | a
        · exact Or.inl ⟨a, k⟩
        · exact Or.inr (Or.inl a)
        · refine Or.inr (Or.inr ?_)
          by_cases ed : e = d
          · rw [hnew e ed]
            subst ed
            exact .next (by omega) hlast a.snoc
          · have : (fs.set d ls.length).getD e 0 = fs.getD e 0 := by
              simp [List.getD, Ne.symm ed]
            rw [this]; exact a.snoc
theorem Lk.weak {L : List Tm} {F : List Bool} {fs : List Nat} {ls : List (Nat × Nat)} {X : Nat → Nat → Prop} {s : Nat} (h : Lk L F fs ls X s) (hX : ∀ m d, 1 ≤ m → m < F.length → Dp L m d → X m d → False) : Lk L F fs ls none2 0 :=
  ⟨h.zero, h.lenF, h.lenf, by have := h.lenl; omega, h.lpos, h.lnk, h.fst, fun m d h1 h2 h3 => by
    rcases h.wt m d h1 h2 h3 with c | c
    · exact absurd c (hX m d h1 h2 h3)
    · exact Or.inr c⟩
theorem Lk.mark {L : List Tm} {F : List Bool} {fs : List Nat} {ls : List (Nat × Nat)} (h : Lk L F fs ls none2 0) {n : Nat} (hn : n < F.length) : Lk L (F.set n true) fs ls none2 0 := by
  refine ⟨(on_set hn).2 (Or.inr h.zero), by simpa using h.lenF, by simpa using h.lenf, by simpa using h.lenl, h.lpos, by simpa using h.lnk, h.fst, fun m d h1 h2 h3 => ?_⟩
  rcases h.wt m d h1 (by simpa using h2) h3 with c | c | c
  · exact Or.inl c
  · exact Or.inr (Or.inl ((on_set hn).2 (Or.inr c)))
  · exact Or.inr (Or.inr c)
structure Sm (L : List Tm) (K : Nat → Prop) (F : List Bool) (l : List Nat) (T : Nat → Prop) : Prop where
  sound : ∀ m, 1 ≤ m → On F m → Fol L K m
  psound : ∀ m ∈ l, Fol L K m ∧ m < F.length
  krng : ∀ m, K m → m < F.length
  known : ∀ m, 1 ≤ m → m < F.length → K m → On F m ∨ m ∈ l
  make : ∀ m, 1 ≤ m → m < F.length → ¬ T m → cmk L F m = true → On F m ∨ m ∈ l
  pair : ∀ m, 1 ≤ m → On F m → ¬ T m → kdOf L m = 3 → (On F (pA L m) ∨ pA L m ∈ l) ∧ (On F (pB L m) ∨ pB L m ∈ l)
  opens : ∀ m, 1 ≤ m → On F m → ¬ T m → kdOf L m = 6 → On F (opn L m) → On F (pB L m) ∨ pB L m ∈ l
def none1 : Nat → Prop := fun _ => False
theorem not_none1 (m : Nat) : ¬ none1 m := fun h => h
theorem sm_start (L : List Tm) : Sm L none1 [true] [] none1 := by
  have h0 : ∀ m, 1 ≤ m → ¬ On [true] m := fun m h c => by have := c.lt; simp at this; omega
  exact ⟨fun m h c => absurd c (h0 m h), by simp, fun m h => h.elim, fun m _ _ h => h.elim, fun m h c => by simp at c; omega, fun m h c => absurd c (h0 m h), fun m h c => absurd c (h0 m h)⟩
def lkA (L : List Tm) (F : List Bool) (m : Nat) : List Nat :=
  if onB F m = false then (if cmk L F m = true then [m] else [])
  else if kdOf L m = 3 then [pA L m, pB L m]
  else if kdOf L m = 6 ∧ onB F (opn L m) = true then [pB L m] else []
theorem lkA_len (L : List Tm) (F : List Bool) (m : Nat) : (lkA L F m).length ≤ 2 := by
  unfold lkA; split <;> split <;> try split
  all_goals simp
theorem Sm.look {L : List Tm} {K : Nat → Prop} {F : List Bool} {l : List Nat} {T T' : Nat → Prop} (h : Sm L K F l T) (hG : Good L) (hF : F.length ≤ L.length + 1) {m : Nat} (h1 : 1 ≤ m) (h2 : m < F.length) (hT : ∀ x, T x → x = m ∨ T' x) : Sm L K F (l ++ lkA L F m) T' := by
  have hp := hG.parts h1 (by omega)
  have hT2 : ∀ x, x ≠ m → ¬ T' x → ¬ T x := fun x hx ht c => by
    rcases hT x c with e | e
    · exact hx e
    · exact ht e
  have inl : ∀ {P : Prop} {x : Nat}, (P ∨ x ∈ l) → (P ∨ x ∈ l ++ lkA L F m) := fun h => h.imp id (fun c => List.mem_append_left _ c)
  refine ⟨h.sound, fun x hx => ?_, h.krng, fun x q1 q2 q3 => inl (h.known x q1 q2 q3), fun x q1 q2 q3 q4 => ?_, fun x q1 q2 q3 q4 => ?_, fun x q1 q2 q3 q4 q5 => ?_⟩
  · rcases List.mem_append.1 hx with c | c
    · exact h.psound x c
    · unfold lkA at c
      by_cases o : onB F m = false
      · rw [if_pos o] at c
        by_cases k : cmk L F m = true
        · rw [if_pos k] at c
          simp at c
          subst c
          obtain ⟨k1, k2, k3⟩ := cmk_iff.1 k
          exact ⟨.make h1 (by omega) k1 (fun z => h.sound _ (by omega) k2) (fun z => h.sound _ (by omega) k3), h2⟩
        · rw [if_neg k] at c; cases c
      · rw [if_neg o] at c
        have on : On F m := onB_iff.1 (by simpa using o)
        by_cases k : kdOf L m = 3
        · rw [if_pos k] at c
          simp at c
          rcases c with rfl | rfl
          · exact ⟨.pairA (h.sound _ h1 on) k, by omega⟩
          · exact ⟨.pairB (h.sound _ h1 on) k, by omega⟩
        · rw [if_neg k] at c
          by_cases k6 : kdOf L m = 6 ∧ onB F (opn L m) = true
          · rw [if_pos k6] at c
            simp at c
            subst c
            exact ⟨.opens (h.sound _ h1 on) k6.1 (h.sound _ (hG.opn h1 (by omega) k6.1).1 (onB_iff.1 k6.2)), by omega⟩
          · rw [if_neg k6] at c; cases c
  · by_cases e : x = m
    · subst e
      by_cases o : onB F x = false
      · refine Or.inr (List.mem_append_right _ ?_)
        simp [lkA, o, q4]
      · exact Or.inl (onB_iff.1 (by simpa using o))
    · exact inl (h.make x q1 q2 (hT2 x e q3) q4)
  · by_cases e : x = m
    · subst e
      have o : onB F x = true := onB_iff.2 q2
      have hm : lkA L F x = [pA L x, pB L x] := by simp [lkA, o, q4]
      rw [hm]
      exact ⟨Or.inr (by simp), Or.inr (by simp)⟩
    · have := h.pair x q1 q2 (hT2 x e q3) q4
      exact ⟨inl this.1, inl this.2⟩
  · by_cases e : x = m
    · subst e
      have o : onB F x = true := onB_iff.2 q2
      have o2 : onB F (opn L x) = true := onB_iff.2 q5
      have hm : lkA L F x = [pB L x] := by simp [lkA, o, o2, q4]
      rw [hm]
      exact Or.inr (by simp)
    · exact inl (h.opens x q1 q2 (hT2 x e q3) q4 q5)
theorem Sm.skip {L : List Tm} {K : Nat → Prop} {F : List Bool} {l : List Nat} {T : Nat → Prop} {n : Nat} (h : Sm L K F (l ++ [n]) T) (ho : On F n) : Sm L K F l T := by
  have inl : ∀ {x : Nat}, (On F x ∨ x ∈ l ++ [n]) → (On F x ∨ x ∈ l) := by
    intro x hx
    rcases hx with c | c
    · exact Or.inl c
    · rcases List.mem_append.1 c with c | c
      · exact Or.inr c
      · simp at c; subst c; exact Or.inl ho
  exact ⟨h.sound, fun m hm => h.psound m (List.mem_append_left _ hm), h.krng, fun m q1 q2 q3 => inl (h.known m q1 q2 q3), fun m q1 q2 q3 q4 => inl (h.make m q1 q2 q3 q4),
    fun m q1 q2 q3 q4 => ⟨inl (h.pair m q1 q2 q3 q4).1, inl (h.pair m q1 q2 q3 q4).2⟩, fun m q1 q2 q3 q4 q5 => inl (h.opens m q1 q2 q3 q4 q5)⟩
theorem Sm.mark {L : List Tm} {K : Nat → Prop} {F : List Bool} {fs : List Nat} {ls : List (Nat × Nat)} {l : List Nat} {n : Nat} (h : Sm L K F (l ++ [n]) none1) (hk : Lk L F fs ls none2 0) (ho : ¬ On F n) :
    Sm L K (F.set n true) l (fun m => m = n ∨ InCh ls (fs.getD n 0) m) := by
  obtain ⟨hfn, hn⟩ := h.psound n (by simp)
  have os := @on_set F n
  have inl : ∀ {x : Nat}, (On F x ∨ x ∈ l ++ [n]) → (On (F.set n true) x ∨ x ∈ l) := by
    intro x hx
    rcases hx with c | c
    · exact Or.inl ((os hn).2 (Or.inr c))
    · rcases List.mem_append.1 c with c | c
      · exact Or.inr c
      · simp at c; subst c; exact Or.inl ((os hn).2 (Or.inl rfl))
  have away : ∀ m d, 1 ≤ m → m < F.length → ¬ (m = n ∨ InCh ls (fs.getD n 0) m) → Dp L m d → On (F.set n true) d → On F d := by
    intro m d q1 q2 q3 q4 q5
    rcases (os hn).1 q5 with e | e
    · subst e
      rcases hk.wt m d q1 q2 q4 with c | c | c
      · exact c.elim
      · exact c
      · exact absurd (Or.inr c) q3
    · exact e
  refine ⟨fun m q1 q2 => ?_, fun m hm => ?_, fun m q => by simpa using h.krng m q, fun m q1 q2 q3 => inl (h.known m q1 (by simpa using q2) q3), fun m q1 q2 q3 q4 => ?_, fun m q1 q2 q3 q4 => ?_, fun m q1 q2 q3 q4 q5 => ?_⟩
  · rcases (os hn).1 q2 with e | e
    · rw [e]; exact hfn
    · exact h.sound m q1 e
  · have := h.psound m (List.mem_append_left _ hm)
    exact ⟨this.1, by simpa using this.2⟩
  · have q2' : m < F.length := by simpa using q2
    obtain ⟨k1, k2, k3⟩ := cmk_iff.1 q4
    exact inl (h.make m q1 q2' (not_none1 m) (cmk_iff.2 ⟨k1, away m _ q1 q2' q3 (Or.inl rfl) k2, away m _ q1 q2' q3 (Or.inr (Or.inl rfl)) k3⟩))
  · have on : On F m := by
      rcases (os hn).1 q2 with e | e
      · exact absurd (Or.inl e) q3
      · exact e
    have := h.pair m q1 on (not_none1 m) q4
    exact ⟨inl this.1, inl this.2⟩
  · have on : On F m := by
      rcases (os hn).1 q2 with e | e
      · exact absurd (Or.inl e) q3
      · exact e
    exact inl (h.opens m q1 on (not_none1 m) q4 (away m _ q1 on.lt q3 (Or.inr (Or.inr ⟨q4, rfl⟩)) q5))
theorem Sm.more {L : List Tm} {K : Nat → Prop} {F : List Bool} (h : Sm L K F [] none1) (hG : Good L) (hl : F.length ≤ L.length) (h1 : 1 ≤ F.length) : Sm L K (F ++ [cmk L F F.length]) [] none1 := by
  obtain ⟨p1, p2⟩ := hG.parts h1 hl
  have low : ∀ {d : Nat}, d < F.length → On (F ++ [cmk L F F.length]) d → On F d := fun hd c => by
    rcases on_snoc.1 c with c | c
    · exact c
    · omega
  refine ⟨fun m q1 q2 => ?_, by simp, fun m q => by have := h.krng m q; simp; omega, fun m q1 q2 q3 => ?_, fun m q1 q2 q3 q4 => ?_, fun m q1 q2 q3 q4 => ?_, fun m q1 q2 q3 q4 q5 => ?_⟩
  · rcases on_snoc.1 q2 with c | ⟨c, d⟩
    · exact h.sound m q1 c
    · rw [← c] at d p1 p2 hl
      obtain ⟨k1, k2, k3⟩ := cmk_iff.1 d
      exact .make q1 hl k1 (fun z => h.sound _ (by omega) (by rw [c] at k2; rw [c]; exact k2)) (fun z => h.sound _ (by omega) (by rw [c] at k3; rw [c]; exact k3))
  · rcases h.known m q1 (h.krng m q3) q3 with c | c
    · exact Or.inl (on_snoc.2 (Or.inl c))
    · cases c
  · obtain ⟨k1, k2, k3⟩ := cmk_iff.1 q4
    simp at q2
    have hp := hG.parts q1 (show m ≤ L.length by omega)
    have j2 := low (show pA L m < F.length by omega) k2
    have j3 := low (show pB L m < F.length by omega) k3
    by_cases e : m = F.length
    · exact Or.inl (on_snoc.2 (Or.inr ⟨e, by rw [← e]; exact cmk_iff.2 ⟨k1, j2, j3⟩⟩))
    · rcases h.make m q1 (by omega) q3 (cmk_iff.2 ⟨k1, j2, j3⟩) with c | c
      · exact Or.inl (on_snoc.2 (Or.inl c))
      · cases c
  · rcases on_snoc.1 q2 with c | ⟨c, d⟩
    · have := h.pair m q1 c q3 q4
      exact ⟨this.1.imp (fun a => on_snoc.2 (Or.inl a)) id, this.2.imp (fun a => on_snoc.2 (Or.inl a)) id⟩
    · rw [← c] at d
      obtain ⟨k1, k2, k3⟩ := cmk_iff.1 d
      exact ⟨Or.inl (on_snoc.2 (Or.inl k2)), Or.inl (on_snoc.2 (Or.inl k3))⟩
  · rcases on_snoc.1 q2 with c | ⟨c, d⟩
    · have hml : m ≤ L.length := by have := c.lt; omega
      have := (hG.opn q1 hml q4).2
      exact (h.opens m q1 c q3 q4 (low (by have := c.lt; omega) q5)).imp (fun a => on_snoc.2 (Or.inl a)) id
    · rw [← c] at d
      obtain ⟨k1, k2, k3⟩ := cmk_iff.1 d
      exact Or.inl (on_snoc.2 (Or.inl k3))
theorem Sm.learn {L : List Tm} {K K' : Nat → Prop} {F : List Bool} {l : List Nat} (h : Sm L K F [] none1) (hG : Good L) (hl : F.length = L.length + 1) (hr : ∀ m ∈ l, 1 ≤ m ∧ m < F.length) (hK : ∀ m, K' m ↔ K m ∨ m ∈ l) : Sm L K' F l none1 := by
  have inl : ∀ {P : Prop} {x : Nat}, (P ∨ x ∈ ([] : List Nat)) → (P ∨ x ∈ l) := fun h => h.imp id (fun c => by cases c)
  refine ⟨fun m q1 q2 => (h.sound m q1 q2).sub hG (fun x hx => (hK x).2 (Or.inl hx)), fun m hm => ⟨.known (hr m hm).1 (by have := (hr m hm).2; omega) ((hK m).2 (Or.inr hm)), (hr m hm).2⟩, fun m q => ?_, fun m q1 q2 q3 => ?_, fun m q1 q2 q3 q4 => inl (h.make m q1 q2 q3 q4), fun m q1 q2 q3 q4 => ⟨inl (h.pair m q1 q2 q3 q4).1, inl (h.pair m q1 q2 q3 q4).2⟩, fun m q1 q2 q3 q4 q5 => inl (h.opens m q1 q2 q3 q4 q5)⟩
  · rcases (hK m).1 q with c | c
    · exact h.krng m c
    · exact (hr m c).2
  · rcases (hK m).1 q3 with c | c
    · exact inl (h.known m q1 q2 c)
    · exact Or.inr c
theorem Sm.tells {L : List Tm} {K : Nat → Prop} {F : List Bool} (h : Sm L K F [] none1) (hG : Good L) (hl : F.length = L.length + 1) (h0 : On F 0) {m : Nat} (h1 : 1 ≤ m) : On F m ↔ Fol L K m := by
  constructor
  · exact h.sound m h1
  · intro f
    have no : ∀ {P : Prop} {x : Nat}, (P ∨ x ∈ ([] : List Nat)) → P := fun h => h.elim id (fun c => by cases c)
    have all : ∀ d, (d ≠ 0 → On F d) → On F d := fun d hd => by
      by_cases e : d = 0
      · rw [e]; exact h0
      · exact hd e
    refine f.least hG (S := On F) ⟨fun x q1 q2 q3 q4 q5 => no (h.make x q1 (by omega) (not_none1 x) (cmk_iff.2 ⟨q3, all _ q4, all _ q5⟩)), fun x q1 q2 q3 q4 => no (h.pair x q1 q3 (not_none1 x) q4).1, fun x q1 q2 q3 q4 => no (h.pair x q1 q3 (not_none1 x) q4).2, fun x q1 q2 q3 q4 q5 => no (h.opens x q1 q3 (not_none1 x) q4 q5)⟩ ?_
    exact fun x q1 q2 q3 => no (h.known x q1 (by omega) q3)
end Go.Proofs.YtpcpcgagiapinaaGreatDoor.Tn

/- The terms of one store among those of another: plain lists. -/
namespace Go.Proofs.YtpcpcgagiapinaaGreatDoor.Tn
def mapT (ph : List Nat) (t : Tm) : Tm := ⟨t.kd, t.n, (ph.getD t.a.toNat 0 : Nat), (ph.getD t.b.toNat 0 : Nat)⟩
structure Acr (L : List Tm) (i : Nat) (R : List Tm) (ph : List Nat) : Prop where
  good : Good R
  len : ph.length = i + 1
  zero : ph.getD 0 0 = 0
  rng : ∀ m, 1 ≤ m → m ≤ i → 1 ≤ ph.getD m 0 ∧ ph.getD m 0 ≤ R.length
  at_ : ∀ m, 1 ≤ m → m ≤ i → tmAt R (ph.getD m 0) = mapT ph (tmAt L m)
theorem acr_start {R : List Tm} (h : Good R) (L : List Tm) : Acr L 0 R [0] := ⟨h, rfl, rfl, fun m h1 h2 => by omega, fun m h1 h2 => by omega⟩
theorem getD_snoc_lt {ph : List Nat} {k m : Nat} (h : m < ph.length) : (ph ++ [k]).getD m 0 = ph.getD m 0 := by
  simp [List.getD, List.getElem?_append_left h]
theorem getD_snoc_eq {ph : List Nat} {k : Nat} : (ph ++ [k]).getD ph.length 0 = k := by simp [List.getD]
theorem tmAt_mk {R : List Tm} {t : Tm} {m : Nat} (h1 : 1 ≤ m) (h2 : m ≤ R.length) : tmAt (mkL R t) m = tmAt R m := by
  obtain ⟨r, e⟩ := mkL_prefix R t
  rw [e]
  simp [tmAt, List.getD, List.getElem?_append_left (show m - 1 < R.length by omega)]
theorem may_map {N M : Nat} {t : Tm} {ph : List Nat} (h : may N t = true) (h0 : ph.getD 0 0 = 0) (hr : ∀ m, 1 ≤ m → m ≤ N → 1 ≤ ph.getD m 0 ∧ ph.getD m 0 ≤ M) : may M (mapT ph t) = true := by
  have th : ∀ x, thr N x = true → thr M ((ph.getD x.toNat 0 : Nat) : Int) = true := fun x hx => by
    have := thr_iff.1 hx
    have := hr x.toNat (by omega) (by omega)
    exact thr_iff.2 (by omega)
  have z : ∀ x : Int, x = 0 → ((ph.getD x.toNat 0 : Nat) : Int) = 0 := fun x hx => by subst hx; simpa using h0
  obtain ⟨k, n, a, b⟩ := t
  unfold mapT
  unfold may at h ⊢
  dsimp only at h ⊢
  split at h
  · rename_i c1; rw [if_pos c1]; simp only [Bool.and_eq_true, decide_eq_true_eq] at h ⊢; exact ⟨⟨h.1.1, z _ h.1.2⟩, z _ h.2⟩
  · rename_i c1; rw [if_neg c1]
    split at h
    · rename_i c2; rw [if_pos c2]; simp only [Bool.and_eq_true, decide_eq_true_eq] at h ⊢; exact ⟨z _ h.1, z _ h.2⟩
    · rename_i c2; rw [if_neg c2]
      split at h
      · rename_i c3; rw [if_pos c3]; simp only [Bool.and_eq_true] at h ⊢; exact ⟨⟨h.1.1, th _ h.1.2⟩, th _ h.2⟩
      · rename_i c3; rw [if_neg c3]
        split at h
        · rename_i c4; rw [if_pos c4]; simp only [Bool.and_eq_true, Bool.or_eq_true, decide_eq_true_eq] at h ⊢; exact ⟨⟨h.1.1, th _ h.1.2⟩, h.2.imp (z _) (th _)⟩
        · rename_i c4; rw [if_neg c4]
          split at h
          · rename_i c5; rw [if_pos c5]; simp only [Bool.and_eq_true, decide_eq_true_eq] at h ⊢; exact ⟨⟨h.1.1, th _ h.1.2⟩, z _ h.2⟩
          · cases h
theorem Acr.step {L : List Tm} {i : Nat} {R : List Tm} {ph : List Nat} (h : Acr L i R ph) (hG : Good L) (hi : i < L.length) (hl : R.length < 1048576) :
    mkE R (mapT ph (tmAt L (i + 1))) = 0 ∧ Acr L (i + 1) (mkL R (mapT ph (tmAt L (i + 1)))) (ph ++ [mkN R (mapT ph (tmAt L (i + 1)))]) := by
  have ht : L[i]? = some (tmAt L (i + 1)) := by simp [tmAt, List.getD, List.getElem?_eq_getElem hi]
  have hm := may_map (hG.may i _ ht) h.zero h.rng
  obtain ⟨e1, e2, e3⟩ := mk_ok hm hl
  have hle := mkL_le R (mapT ph (tmAt L (i + 1)))
  have hp := hG.parts (m := i + 1) (by omega) (by omega)
  have hlen := h.len
  have keep : ∀ m, 1 ≤ m → m ≤ i + 1 → mapT (ph ++ [mkN R (mapT ph (tmAt L (i + 1)))]) (tmAt L m) = mapT ph (tmAt L m) := fun m h1 h2 => by
    have hq := hG.parts (m := m) h1 (by omega)
    unfold pA pB at hq
    unfold mapT
    rw [getD_snoc_lt (by omega), getD_snoc_lt (by omega)]
  have q1 := num_get e3
  have q2 := num_le (mkL R (mapT ph (tmAt L (i + 1)))) (mapT ph (tmAt L (i + 1)))
  rw [← e2] at q1 q2
  refine ⟨e1, ⟨h.good.made _, by simp [h.len], by rw [getD_snoc_lt (by omega)]; exact h.zero, fun m h1 h2 => ?_, fun m h1 h2 => ?_⟩⟩
  · by_cases c : m = i + 1
    · subst c
      have e := getD_snoc_eq (ph := ph) (k := mkN R (mapT ph (tmAt L (i + 1))))
      rw [h.len] at e
      rw [e]; omega
    · rw [getD_snoc_lt (by omega)]
      have := h.rng m h1 (by omega)
      omega
  · rw [keep m h1 h2]
    by_cases c : m = i + 1
    · subst c
      have e := getD_snoc_eq (ph := ph) (k := mkN R (mapT ph (tmAt L (i + 1))))
      rw [h.len] at e
      rw [e]
      have : tmAt (mkL R (mapT ph (tmAt L (i + 1)))) (mkN R (mapT ph (tmAt L (i + 1)))) = mapT ph (tmAt L (i + 1)) := by
        generalize mapT ph (tmAt L (i + 1)) = u at *
        simp [tmAt, List.getD, q1.1]
      exact this
    · rw [getD_snoc_lt (by omega)]
      have hr := h.rng m h1 (by omega)
      rw [tmAt_mk hr.1 hr.2]
      exact h.at_ m h1 (by omega)
theorem Acr.maps {L R : List Tm} {ph : List Nat} (h : Acr L L.length R ph) (hG : Good L) : Maps L R (fun m => ph.getD m 0) := by
  have parts : ∀ m, 1 ≤ m → m ≤ L.length → (tmAt R (ph.getD m 0)).kd = (tmAt L m).kd ∧ (tmAt R (ph.getD m 0)).n = (tmAt L m).n ∧ pA R (ph.getD m 0) = ph.getD (pA L m) 0 ∧ pB R (ph.getD m 0) = ph.getD (pB L m) 0 := fun m h1 h2 => by
    have e := h.at_ m h1 h2
    unfold pA pB
    rw [e]
    simp only [mapT, Int.toNat_natCast, and_self]
  refine ⟨h.zero, h.rng, ?_, parts⟩
  intro m
  induction m using Nat.strongRecOn with
  | _ m ih =>
    intro k hm hk e
    by_cases m0 : m = 0
    · subst m0
      by_cases k0 : k = 0
      · exact k0.symm
      · have := (h.rng k (by omega) hk).1
        have e' : ph.getD 0 0 = ph.getD k 0 := e
        rw [h.zero] at e'; omega
    · by_cases k0 : k = 0
      · subst k0
        have := (h.rng m (by omega) hm).1
        have e' : ph.getD m 0 = ph.getD 0 0 := e
        rw [h.zero] at e'; omega
      · obtain ⟨a1, a2, a3, a4⟩ := parts m (by omega) hm
        obtain ⟨b1, b2, b3, b4⟩ := parts k (by omega) hk
        have e' : ph.getD m 0 = ph.getD k 0 := e
        rw [e'] at a1 a2 a3 a4
        obtain ⟨p1, p2⟩ := hG.parts (m := m) (by omega) hm
        obtain ⟨q1, q2⟩ := hG.parts (m := k) (by omega) hk
        have eA := ih (pA L m) p1 (pA L k) (by omega) (by omega) (by show ph.getD _ 0 = ph.getD _ 0; rw [← a3, ← b3])
        have eB := ih (pB L m) p2 (pB L k) (by omega) (by omega) (by show ph.getD _ 0 = ph.getD _ 0; rw [← a4, ← b4])
        apply hG.tmAt_inj (by omega) hm (by omega) hk
        obtain ⟨s1, s2⟩ := hG.tmAt_parts (m := m) (by omega) hm
        obtain ⟨t1, t2⟩ := hG.tmAt_parts (m := k) (by omega) hk
        rw [a1] at b1
        rw [a2] at b2
        cases hx : tmAt L m with
        | mk x1 x2 x3 x4 =>
          cases hy : tmAt L k with
          | mk y1 y2 y3 y4 =>
            rw [hx] at s1 s2 b1 b2
            rw [hy] at t1 t2 b1 b2
            simp only at s1 s2 t1 t2 b1 b2
            rw [s1, s2, t1, t2, eA, eB, b1, b2]
end Go.Proofs.YtpcpcgagiapinaaGreatDoor.Tn
