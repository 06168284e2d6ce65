/- Texts joined: NTmPure NTmPureB NTmAcr. -/
import Derived.Calls
/- Terms, stores of terms and their dags, as plain lists: nothing here speaks of the program. -/
namespace Go.Proofs.Ytokdflbajnecpaa.Tn
structure Tm where
  kd : Int
  n : Int
  a : Int
  b : Int
  deriving DecidableEq, Inhabited
def thr (N : Nat) (x : Int) : Bool := decide (1 ≤ x) && decide (x ≤ (N : Int))
theorem thr_iff {N : Nat} {x : Int} : thr N x = true ↔ 1 ≤ x ∧ x ≤ (N : Int) := by simp [thr]
theorem thr_false {N : Nat} {x : Int} : thr N x = false ↔ ¬ (1 ≤ x ∧ x ≤ (N : Int)) := by
  cases h : thr N x
  · simp only [true_iff]; intro c; rw [thr_iff.2 c] at h; cases h
  · simp [thr_iff.1 h]
def may (N : Nat) (t : Tm) : Bool :=
  if t.kd = 1 then decide (0 ≤ t.n) && decide (t.a = 0) && decide (t.b = 0)
  else if t.kd = 2 then decide (t.a = 0) && decide (t.b = 0)
  else if t.kd = 3 ∨ t.kd = 6 then decide (t.n = 0) && thr N t.a && thr N t.b
  else if t.kd = 4 then decide (0 ≤ t.n) && thr N t.a && (decide (t.b = 0) || thr N t.b)
  else if t.kd = 5 ∨ t.kd = 7 then decide (t.n = 0) && thr N t.a && decide (t.b = 0)
  else false
theorem thr_mono {N M : Nat} {x : Int} (h : thr N x = true) (hNM : N ≤ M) : thr M x = true := by
  have := thr_iff.1 h; exact thr_iff.2 (by omega)
theorem may_parts {N : Nat} {t : Tm} (h : may N t = true) : 0 ≤ t.a ∧ t.a ≤ N ∧ 0 ≤ t.b ∧ t.b ≤ N := by
  unfold may at h
  split at h
  · simp only [Bool.and_eq_true, decide_eq_true_eq] at h; omega
  · split at h
    · simp only [Bool.and_eq_true, decide_eq_true_eq] at h; omega
    · split at h
      · simp only [Bool.and_eq_true, decide_eq_true_eq, thr_iff] at h; omega
      · split at h
        · simp only [Bool.and_eq_true, Bool.or_eq_true, decide_eq_true_eq, thr_iff] at h; omega
        · split at h
          · simp only [Bool.and_eq_true, decide_eq_true_eq, thr_iff] at h; omega
          · cases h
theorem may_mono {N M : Nat} {t : Tm} (h : may N t = true) (hNM : N ≤ M) : may M t = true := by
  unfold may at h ⊢
  split at h
  · rename_i c1; rw [if_pos c1]; exact h
  · rename_i c1; rw [if_neg c1]
    split at h
    · rename_i c2; rw [if_pos c2]; exact h
    · rename_i c2; rw [if_neg c2]
      split at h
      · rename_i c3; rw [if_pos c3]; simp only [Bool.and_eq_true] at h ⊢; exact ⟨⟨h.1.1, thr_mono h.1.2 hNM⟩, thr_mono h.2 hNM⟩
      · rename_i c3; rw [if_neg c3]
        split at h
        · rename_i c4; rw [if_pos c4]; simp only [Bool.and_eq_true, Bool.or_eq_true] at h ⊢; exact ⟨⟨h.1.1, thr_mono h.1.2 hNM⟩, h.2.imp id (fun q => thr_mono q hNM)⟩
        · rename_i c4; rw [if_neg c4]
          split at h
          · rename_i c5; rw [if_pos c5]; simp only [Bool.and_eq_true] at h ⊢; exact ⟨⟨h.1.1, thr_mono h.1.2 hNM⟩, h.2⟩
          · cases h
def num (L : List Tm) (t : Tm) : Nat := if t ∈ L then L.idxOf t + 1 else 0
theorem num_none {L : List Tm} {t : Tm} (h : t ∉ L) : num L t = 0 := by simp [num, h]
theorem num_le (L : List Tm) (t : Tm) : num L t ≤ L.length := by
  unfold num; split
  · rename_i h; exact List.idxOf_lt_length_iff.2 h
  · omega
theorem num_get {L : List Tm} {t : Tm} (h : t ∈ L) : L[num L t - 1]? = some t ∧ 1 ≤ num L t := by
  have := List.idxOf_lt_length_iff.2 h
  simp only [num, h, if_true, Nat.add_sub_cancel]
  refine ⟨?_, by omega⟩
  rw [List.getElem?_eq_getElem this, List.getElem_idxOf]
theorem num_append {L : List Tm} {t u : Tm} (h : t ∈ L) : num (L ++ [u]) t = num L t := by
  simp [num, h, List.idxOf_append]
theorem num_last {L : List Tm} {t : Tm} (h : t ∉ L) : num (L ++ [t]) t = L.length + 1 := by
  simp [num, List.idxOf_append, h]
def mkL (L : List Tm) (t : Tm) : List Tm := if may L.length t = true ∧ t ∉ L ∧ L.length < 1048576 then L ++ [t] else L
def mkN (L : List Tm) (t : Tm) : Nat := if may L.length t = true then (if t ∈ L then num L t else if L.length < 1048576 then L.length + 1 else 0) else 0
def mkE (L : List Tm) (t : Tm) : Int := if may L.length t = true then (if t ∈ L then 0 else if L.length < 1048576 then 0 else 3) else 1
structure Good (L : List Tm) : Prop where
  may : ∀ i t, L[i]? = some t → may i t = true
  nodup : L.Nodup
  len : L.length ≤ 1048576
theorem good_nil : Good [] := ⟨by simp, List.nodup_nil, by simp⟩
theorem Good.made {L : List Tm} (h : Good L) (t : Tm) : Good (mkL L t) := by
  unfold mkL
  split
  · rename_i c
    obtain ⟨c1, c2, c3⟩ := c
    refine ⟨fun i u hu => ?_, ?_, by simp; omega⟩
    · rcases Nat.lt_or_ge i L.length with q | q
      · rw [List.getElem?_append_left q] at hu; exact h.may i u hu
      · rw [List.getElem?_append_right q] at hu
        have : i - L.length = 0 := by
          rcases Nat.eq_zero_or_pos (i - L.length) with e | e
          · exact e
          · rw [List.getElem?_eq_none (by simp; omega)] at hu; cases hu
        rw [this] at hu
        simp at hu
        subst hu
        exact may_mono c1 q
    · rw [List.nodup_append]
      refine ⟨h.nodup, by simp, ?_⟩
      intro x hx y hy e
      simp at hy
      subst hy
      subst e
      exact c2 hx
  · exact h
theorem mkL_len (L : List Tm) (t : Tm) : (mkL L t).length ≤ L.length + 1 := by unfold mkL; split <;> simp
theorem mkL_le (L : List Tm) (t : Tm) : L.length ≤ (mkL L t).length := by unfold mkL; split <;> simp
theorem mkL_prefix (L : List Tm) (t : Tm) : ∃ r, mkL L t = L ++ r := by
  unfold mkL; split
  · exact ⟨_, rfl⟩
  · exact ⟨[], by simp⟩
theorem mk_ok {L : List Tm} {t : Tm} (h : may L.length t = true) (hl : L.length < 1048576) : mkE L t = 0 ∧ mkN L t = num (mkL L t) t ∧ t ∈ mkL L t := by
  unfold mkE mkN mkL
  simp only [h, if_true, true_and]
  by_cases c : t ∈ L
  · simp [c]
  · simp [c, hl, num_last c]
def tmAt (L : List Tm) (m : Nat) : Tm := L.getD (m - 1) default
def pA (L : List Tm) (m : Nat) : Nat := (tmAt L m).a.toNat
def pB (L : List Tm) (m : Nat) : Nat := (tmAt L m).b.toNat
theorem Good.parts {L : List Tm} (h : Good L) {m : Nat} (h1 : 1 ≤ m) (h2 : m ≤ L.length) : pA L m < m ∧ pB L m < m := by
  have hlt : m - 1 < L.length := by omega
  have e : L[m - 1]? = some (L.getD (m - 1) default) := by simp [List.getD, List.getElem?_eq_getElem hlt]
  have := may_parts (h.may _ _ e)
  unfold pA pB tmAt
  omega
def pos (o : List Nat) (k : Nat) : Nat := if k ∈ o then o.idxOf k + 1 else 0
def tr (o : List Nat) (t : Tm) : Tm := ⟨t.kd, t.n, pos o t.a.toNat, pos o t.b.toNat⟩
def outs (L : List Tm) (o : List Nat) : List Tm := o.map fun m => tr o (tmAt L m)
structure Told (L : List Tm) (o : List Nat) : Prop where
  nodup : o.Nodup
  rng : ∀ m ∈ o, 1 ≤ m ∧ m ≤ L.length
  part : ∀ i m, o[i]? = some m → (pA L m = 0 ∨ pA L m ∈ o.take i) ∧ (pB L m = 0 ∨ pB L m ∈ o.take i)
theorem told_nil (L : List Tm) : Told L [] := ⟨List.nodup_nil, by simp, by simp⟩
theorem Told.snoc {L : List Tm} {o : List Nat} (h : Told L o) {n : Nat} (h1 : 1 ≤ n) (h2 : n ≤ L.length) (ho : n ∉ o) (hA : pA L n = 0 ∨ pA L n ∈ o) (hB : pB L n = 0 ∨ pB L n ∈ o) : Told L (o ++ [n]) := by
  refine ⟨?_, ?_, ?_⟩
  · rw [List.nodup_append]
    refine ⟨h.nodup, by simp, ?_⟩
    intro x hx y hy e
    simp at hy
    subst hy
    subst e
    exact ho hx
  · intro m hm
    rcases List.mem_append.1 hm with hm | hm
    · exact h.rng m hm
    · simp at hm; subst hm; exact ⟨h1, h2⟩
  · intro i m hi
    rcases Nat.lt_or_ge i o.length with q | q
    · rw [List.getElem?_append_left q] at hi
      rw [List.take_append_of_le_length (by omega)]
      exact h.part i m hi
    · rw [List.getElem?_append_right q] at hi
      have : i - o.length = 0 := by
        rcases Nat.eq_zero_or_pos (i - o.length) with e | e
        · exact e
        · rw [List.getElem?_eq_none (by simp; omega)] at hi; cases hi
      have hio : i = o.length := by omega
      subst hio
      simp at hi
      subst hi
      simp only [List.take_left']
      exact ⟨hA, hB⟩
theorem nodup_len : ∀ (N : Nat) (o : List Nat), o.Nodup → (∀ m ∈ o, 1 ≤ m ∧ m ≤ N) → o.length ≤ N
  | 0, o, _, h => by
    cases o with
    | nil => simp
    | cons x r => have := h x (by simp); omega
  | N + 1, o, hn, h => by
    have h1 : (o.erase (N + 1)).length ≤ N := nodup_len N _ (hn.erase _) (fun m hm => by
      have hm2 := List.mem_of_mem_erase hm
      have := h m hm2
      have : m ≠ N + 1 := by
        rintro rfl
        exact (List.Nodup.not_mem_erase hn) hm
      omega)
    have := List.length_erase_of_mem (l := o) (a := N + 1)
    by_cases hc : N + 1 ∈ o
    · have := this hc; omega
    · rw [List.erase_of_not_mem hc] at h1; omega
theorem Told.len {L : List Tm} {o : List Nat} (h : Told L o) : o.length ≤ L.length := nodup_len _ _ h.nodup h.rng
theorem Told.zero {L : List Tm} {o : List Nat} (h : Told L o) : 0 ∉ o := fun c => by have := h.rng 0 c; omega
end Go.Proofs.Ytokdflbajnecpaa.Tn

/- Dags of terms: how they are worked off a stack, what is within them, what is the same in two stores. -/
namespace Go.Proofs.Ytokdflbajnecpaa.Tn
structure Begun (L : List Tm) (stk o : List Nat) : Prop where
  rng : ∀ m ∈ stk, 1 ≤ m ∧ m ≤ L.length ∧ m ∉ o
  desc : stk.Pairwise (fun x y => y < x)
theorem Begun.len {L : List Tm} {stk o : List Nat} (h : Begun L stk o) : stk.length ≤ L.length :=
  nodup_len _ _ (h.desc.imp (fun {a b} hab => by omega)) (fun m hm => ⟨(h.rng m hm).1, (h.rng m hm).2.1⟩)
theorem Begun.pop {L : List Tm} {stk o : List Nat} {m : Nat} (h : Begun L (stk ++ [m]) o) : Begun L stk (o ++ [m]) := by
  refine ⟨fun x hx => ?_, (List.pairwise_append.1 h.desc).1⟩
  have := h.rng x (List.mem_append_left _ hx)
  have hlt := (List.pairwise_append.1 h.desc).2.2 x hx m (by simp)
  refine ⟨this.1, this.2.1, ?_⟩
  intro c
  rcases List.mem_append.1 c with c | c
  · exact this.2.2 c
  · simp at c; omega
structure Maps (L R : List Tm) (φ : Nat → Nat) : Prop where
  zero : φ 0 = 0
  rng : ∀ m, 1 ≤ m → m ≤ L.length → 1 ≤ φ m ∧ φ m ≤ R.length
  inj : ∀ m k, m ≤ L.length → k ≤ L.length → φ m = φ k → m = k
  at_ : ∀ m, 1 ≤ m → m ≤ L.length → (tmAt R (φ m)).kd = (tmAt L m).kd ∧ (tmAt R (φ m)).n = (tmAt L m).n ∧ pA R (φ m) = φ (pA L m) ∧ pB R (φ m) = φ (pB L m)
theorem Maps.mem {L R : List Tm} {φ : Nat → Nat} (h : Maps L R φ) {o : List Nat} (ho : ∀ m ∈ o, m ≤ L.length) {k : Nat} (hk : k ≤ L.length) : φ k ∈ o.map φ ↔ k ∈ o := by
  constructor
  · intro c
    obtain ⟨x, hx, e⟩ := List.mem_map.1 c
    rw [← h.inj x k (ho x hx) hk e]; exact hx
  · exact fun c => List.mem_map_of_mem c
theorem Good.tmAt_inj {L : List Tm} (h : Good L) {m k : Nat} (h1 : 1 ≤ m) (h2 : m ≤ L.length) (k1 : 1 ≤ k) (k2 : k ≤ L.length) (e : tmAt L m = tmAt L k) : m = k := by
  have a1 : m - 1 < L.length := by omega
  have a2 : k - 1 < L.length := by omega
  have e1 : tmAt L m = L[m - 1] := by simp [tmAt, List.getD, List.getElem?_eq_getElem a1]
  have e2 : tmAt L k = L[k - 1] := by simp [tmAt, List.getD, List.getElem?_eq_getElem a2]
  rw [e1, e2] at e
  have := (List.getElem_inj h.nodup).1 e
  omega
theorem Good.tmAt_parts {L : List Tm} (h : Good L) {m : Nat} (h1 : 1 ≤ m) (h2 : m ≤ L.length) : (tmAt L m).a = (pA L m : Nat) ∧ (tmAt L m).b = (pB L m : Nat) := by
  have a1 : m - 1 < L.length := by omega
  have e : L[m - 1]? = some (tmAt L m) := by simp [tmAt, List.getD, List.getElem?_eq_getElem a1]
  have := may_parts (h.may _ _ e)
  unfold pA pB
  omega
end Go.Proofs.Ytokdflbajnecpaa.Tn

/- The terms of one store among those of another: plain lists. -/
namespace Go.Proofs.Ytokdflbajnecpaa.Tn
def mapT (ph : List Nat) (t : Tm) : Tm := ⟨t.kd, t.n, (ph.getD t.a.toNat 0 : Nat), (ph.getD t.b.toNat 0 : Nat)⟩
structure Acr (L : List Tm) (i : Nat) (R : List Tm) (ph : List Nat) : Prop where
  good : Good R
  len : ph.length = i + 1
  zero : ph.getD 0 0 = 0
  rng : ∀ m, 1 ≤ m → m ≤ i → 1 ≤ ph.getD m 0 ∧ ph.getD m 0 ≤ R.length
  at_ : ∀ m, 1 ≤ m → m ≤ i → tmAt R (ph.getD m 0) = mapT ph (tmAt L m)
theorem getD_snoc_lt {ph : List Nat} {k m : Nat} (h : m < ph.length) : (ph ++ [k]).getD m 0 = ph.getD m 0 := by
  simp [List.getD, List.getElem?_append_left h]
theorem getD_snoc_eq {ph : List Nat} {k : Nat} : (ph ++ [k]).getD ph.length 0 = k := by simp [List.getD]
theorem tmAt_mk {R : List Tm} {t : Tm} {m : Nat} (h1 : 1 ≤ m) (h2 : m ≤ R.length) : tmAt (mkL R t) m = tmAt R m := by
  obtain ⟨r, e⟩ := mkL_prefix R t
  rw [e]
  simp [tmAt, List.getD, List.getElem?_append_left (show m - 1 < R.length by omega)]
theorem may_map {N M : Nat} {t : Tm} {ph : List Nat} (h : may N t = true) (h0 : ph.getD 0 0 = 0) (hr : ∀ m, 1 ≤ m → m ≤ N → 1 ≤ ph.getD m 0 ∧ ph.getD m 0 ≤ M) : may M (mapT ph t) = true := by
  have th : ∀ x, thr N x = true → thr M ((ph.getD x.toNat 0 : Nat) : Int) = true := fun x hx => by
    have := thr_iff.1 hx
    have := hr x.toNat (by omega) (by omega)
    exact thr_iff.2 (by omega)
  have z : ∀ x : Int, x = 0 → ((ph.getD x.toNat 0 : Nat) : Int) = 0 := fun x hx => by subst hx; simpa using h0
  obtain ⟨k, n, a, b⟩ := t
  unfold mapT
  unfold may at h ⊢
  dsimp only at h ⊢
  split at h
  · rename_i c1; rw [if_pos c1]; simp only [Bool.and_eq_true, decide_eq_true_eq] at h ⊢; exact ⟨⟨h.1.1, z _ h.1.2⟩, z _ h.2⟩
  · rename_i c1; rw [if_neg c1]
    split at h
    · rename_i c2; rw [if_pos c2]; simp only [Bool.and_eq_true, decide_eq_true_eq] at h ⊢; exact ⟨z _ h.1, z _ h.2⟩
    · rename_i c2; rw [if_neg c2]
      split at h
      · rename_i c3; rw [if_pos c3]; simp only [Bool.and_eq_true] at h ⊢; exact ⟨⟨h.1.1, th _ h.1.2⟩, th _ h.2⟩
      · rename_i c3; rw [if_neg c3]
        split at h
        · rename_i c4; rw [if_pos c4]; simp only [Bool.and_eq_true, Bool.or_eq_true, decide_eq_true_eq] at h ⊢; exact ⟨⟨h.1.1, th _ h.1.2⟩, h.2.imp (z _) (th _)⟩
        · rename_i c4; rw [if_neg c4]
          split at h
          · rename_i c5; rw [if_pos c5]; simp only [Bool.and_eq_true, decide_eq_true_eq] at h ⊢; exact ⟨⟨h.1.1, th _ h.1.2⟩, z _ h.2⟩
          · cases h
theorem Acr.step {L : List Tm} {i : Nat} {R : List Tm} {ph : List Nat} (h : Acr L i R ph) (hG : Good L) (hi : i < L.length) (hl : R.length < 1048576) :
    mkE R (mapT ph (tmAt L (i + 1))) = 0 ∧ Acr L (i + 1) (mkL R (mapT ph (tmAt L (i + 1)))) (ph ++ [mkN R (mapT ph (tmAt L (i + 1)))]) := by
  have ht : L[i]? = some (tmAt L (i + 1)) := by simp [tmAt, List.getD, List.getElem?_eq_getElem hi]
  have hm := may_map (hG.may i _ ht) h.zero h.rng
  obtain ⟨e1, e2, e3⟩ := mk_ok hm hl
  have hle := mkL_le R (mapT ph (tmAt L (i + 1)))
  have hp := hG.parts (m := i + 1) (by omega) (by omega)
  have hlen := h.len
  have keep : ∀ m, 1 ≤ m → m ≤ i + 1 → mapT (ph ++ [mkN R (mapT ph (tmAt L (i + 1)))]) (tmAt L m) = mapT ph (tmAt L m) := fun m h1 h2 => by
    have hq := hG.parts (m := m) h1 (by omega)
    unfold pA pB at hq
    unfold mapT
    rw [getD_snoc_lt (by omega), getD_snoc_lt (by omega)]
  have q1 := num_get e3
  have q2 := num_le (mkL R (mapT ph (tmAt L (i + 1)))) (mapT ph (tmAt L (i + 1)))
  rw [← e2] at q1 q2
  refine ⟨e1, ⟨h.good.made _, by simp [h.len], by rw [getD_snoc_lt (by omega)]; exact h.zero, fun m h1 h2 => ?_, fun m h1 h2 => ?_⟩⟩
  · by_cases c : m = i + 1
    · subst c
      have e := getD_snoc_eq (ph := ph) (k := mkN R (mapT ph (tmAt L (i + 1))))
      rw [h.len] at e
      rw [e]; omega
    · rw [getD_snoc_lt (by omega)]
      have := h.rng m h1 (by omega)
      omega
  · rw [keep m h1 h2]
    by_cases c : m = i + 1
    · subst c
      have e := getD_snoc_eq (ph := ph) (k := mkN R (mapT ph (tmAt L (i + 1))))
      rw [h.len] at e
      rw [e]
      have : tmAt (mkL R (mapT ph (tmAt L (i + 1)))) (mkN R (mapT ph (tmAt L (i + 1)))) = mapT ph (tmAt L (i + 1)) := by
        generalize mapT ph (tmAt L (i + 1)) = u at *
        simp [tmAt, List.getD, q1.1]
      exact this
    · rw [getD_snoc_lt (by omega)]
      have hr := h.rng m h1 (by omega)
      rw [tmAt_mk hr.1 hr.2]
      exact h.at_ m h1 (by omega)
end Go.Proofs.Ytokdflbajnecpaa.Tn
