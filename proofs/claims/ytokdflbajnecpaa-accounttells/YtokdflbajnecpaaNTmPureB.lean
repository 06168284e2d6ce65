/- Dags of terms: how they are worked off a stack, what is within them, what is the same in two stores. -/
import Derived.Test.YtokdflbajnecpaaNTmPure
namespace Go.Proofs.Ytokdflbajnecpaa.Tn

/-- What is told when the numbers that are begun (the last one begun first) are worked off. -/
def fin (L : List Tm) (f : Nat) : List Nat → List Nat → List Nat
  | [], o => o
  | m :: st, o => fin L f st (ordF L f m o)

theorem not_mem_part {L : List Tm} (hG : Good L) {f m p : Nat} {o : List Nat} (h2 : m ≤ L.length) (ho : m ∉ o) (hp : p < m) : m ∉ ordF L f p o := fun c => by
  rcases ordF_le hG f p o m c (by omega) with c | c
  · exact ho c
  · omega
theorem ordF_pushA {L : List Tm} (hG : Good L) {f m : Nat} {o : List Nat} (h1 : 1 ≤ m) (h2 : m ≤ L.length) (hf : m ≤ f) (ho : m ∉ o) : ordF L f m (ordF L f (pA L m) o) = ordF L f m o := by
  obtain ⟨p1, p2⟩ := hG.parts h1 h2
  rw [ordF_unfold hG h1 h2 hf (not_mem_part hG h2 ho p1), ordF_unfold hG h1 h2 hf ho]
  have e : ordF L f (pA L m) (ordF L f (pA L m) o) = ordF L f (pA L m) o := by
    apply ordF_skip
    by_cases c : pA L m = 0
    · exact Or.inl c
    · exact Or.inr (ordF_mem (by omega) (by omega))
  rw [e]
theorem ordF_pushB {L : List Tm} (hG : Good L) {f m : Nat} {o : List Nat} (h1 : 1 ≤ m) (h2 : m ≤ L.length) (hf : m ≤ f) (ho : m ∉ o) (hA : pA L m = 0 ∨ pA L m ∈ o) : ordF L f m (ordF L f (pB L m) o) = ordF L f m o := by
  obtain ⟨p1, p2⟩ := hG.parts h1 h2
  rw [ordF_unfold hG h1 h2 hf (not_mem_part hG h2 ho p2), ordF_unfold hG h1 h2 hf ho, ordF_skip L f (pA L m) o hA, ordF_skip L f (pA L m) (ordF L f (pB L m) o) (hA.imp id ordF_sub)]
  congr 1
  apply ordF_skip
  by_cases c : pB L m = 0
  · exact Or.inl c
  · exact Or.inr (ordF_mem (by omega) (by omega))
theorem ordF_pop {L : List Tm} (hG : Good L) {f m : Nat} {o : List Nat} (h1 : 1 ≤ m) (h2 : m ≤ L.length) (hf : m ≤ f) (ho : m ∉ o) (hA : pA L m = 0 ∨ pA L m ∈ o) (hB : pB L m = 0 ∨ pB L m ∈ o) : ordF L f m o = o ++ [m] := by
  rw [ordF_unfold hG h1 h2 hf ho, ordF_skip L f (pA L m) o hA, ordF_skip L f (pB L m) o hB]

/-- The numbers that are begun: each a part of the one before, none told. -/
structure Begun (L : List Tm) (stk o : List Nat) : Prop where
  rng : ∀ m ∈ stk, 1 ≤ m ∧ m ≤ L.length ∧ m ∉ o
  desc : stk.Pairwise (fun x y => y < x)
theorem Begun.len {L : List Tm} {stk o : List Nat} (h : Begun L stk o) : stk.length ≤ L.length :=
  nodup_len _ _ (h.desc.imp (fun {a b} hab => by omega)) (fun m hm => ⟨(h.rng m hm).1, (h.rng m hm).2.1⟩)
theorem Begun.push {L : List Tm} {stk o : List Nat} {m p : Nat} (h : Begun L (stk ++ [m]) o) (h1 : 1 ≤ p) (h2 : p < m) (ho : p ∉ o) : Begun L (stk ++ [m] ++ [p]) o := by
  have hm := h.rng m (by simp)
  refine ⟨fun x hx => ?_, ?_⟩
  · rcases List.mem_append.1 hx with hx | hx
    · exact h.rng x hx
    · simp at hx; subst hx; exact ⟨h1, by omega, ho⟩
  · rw [List.pairwise_append]
    refine ⟨h.desc, by simp, ?_⟩
    intro x hx y hy
    simp at hy
    subst hy
    rcases List.mem_append.1 hx with hx | hx
    · have := (List.pairwise_append.1 h.desc).2.2 x hx m (by simp); omega
    · simp at hx; omega
theorem Begun.pop {L : List Tm} {stk o : List Nat} {m : Nat} (h : Begun L (stk ++ [m]) o) : Begun L stk (o ++ [m]) := by
  refine ⟨fun x hx => ?_, (List.pairwise_append.1 h.desc).1⟩
  have := h.rng x (List.mem_append_left _ hx)
  have hlt := (List.pairwise_append.1 h.desc).2.2 x hx m (by simp)
  refine ⟨this.1, this.2.1, ?_⟩
  intro c
  rcases List.mem_append.1 c with c | c
  · exact this.2.2 c
  · simp at c; omega

/-! What is within a dag. -/
theorem ord_eq {L : List Tm} (hG : Good L) {n : Nat} (h1 : 1 ≤ n) (h2 : n ≤ L.length) : ord L n = ordF L (pB L n) (pB L n) (ord L (pA L n)) ++ [n] := by
  obtain ⟨p1, p2⟩ := hG.parts h1 h2
  unfold ord
  rw [ordF_unfold hG h1 h2 (Nat.le_refl _) (by simp), ordF_fuel hG n (pA L n) (pA L n) [] (by omega) (by omega) (Nat.le_refl _), ordF_fuel hG n (pB L n) (pB L n) _ (by omega) (by omega) (Nat.le_refl _)]
theorem ord_told {L : List Tm} (hG : Good L) {n : Nat} (h2 : n ≤ L.length) : Told L (ord L n) := ordF_told hG n n [] h2 (Nat.le_refl _) (told_nil L)
theorem ord_fuel {L : List Tm} (hG : Good L) {n f : Nat} (h2 : n ≤ L.length) (hf : n ≤ f) : ordF L f n [] = ord L n := ordF_fuel hG f n n [] h2 hf (Nat.le_refl _)

theorem ordF_within {L : List Tm} (hG : Good L) (f n : Nat) (o c : List Nat) (hn : n ≤ L.length) (hf : n ≤ f) (hc : ∀ m ∈ c, (pA L m = 0 ∨ pA L m ∈ c) ∧ (pB L m = 0 ∨ pB L m ∈ c)) (ho : ∀ x ∈ o, x ∈ c) (hm : n = 0 ∨ n ∈ c) : ∀ x ∈ ordF L f n o, x ∈ c := by
  induction f generalizing n o with
  | zero => exact ho
  | succ f ih =>
    by_cases h : n = 0 ∨ n ∈ o
    · rw [ordF_skip _ _ _ _ h]; exact ho
    · have h0 : n ≠ 0 := fun q => h (Or.inl q)
      obtain ⟨p1, p2⟩ := hG.parts (m := n) (by omega) hn
      have hnc : n ∈ c := hm.resolve_left h0
      rw [ordF_step _ _ _ _ h]
      intro x hx
      rcases List.mem_append.1 hx with hx | hx
      · exact ih (pB L n) _ (by omega) (by omega) (ih (pA L n) o (by omega) (by omega) ho (hc n hnc).1) (hc n hnc).2 x hx
      · simp at hx; subst hx; exact hnc
/-- Whoever has told more tells no more. -/
theorem ordF_less {L : List Tm} (hG : Good L) (f n : Nat) (o o' : List Nat) (hn : n ≤ L.length) (hf : n ≤ f) (hT : Told L o) (hT' : Told L o') (hs : ∀ x ∈ o', x ∈ o) :
    (ordF L f n o).length + o'.length ≤ o.length + (ordF L f n o').length ∧ ∀ x ∈ ordF L f n o', x ∈ ordF L f n o := by
  induction f generalizing n o o' with
  | zero => exact ⟨by simp [ordF], hs⟩
  | succ f ih =>
    by_cases h : n = 0 ∨ n ∈ o
    · rw [ordF_skip L _ n o h]
      obtain ⟨r, e⟩ := ordF_prefix L (f + 1) n o'
      exact ⟨by rw [e, List.length_append]; omega, ordF_within hG (f + 1) n o' o hn hf (fun m hm => hT.closed hm) hs h⟩
    · have h0 : n ≠ 0 := fun q => h (Or.inl q)
      have h' : ¬ (n = 0 ∨ n ∈ o') := by
        rintro (c | c)
        · exact h0 c
        · exact h (Or.inr (hs n c))
      obtain ⟨p1, p2⟩ := hG.parts (m := n) (by omega) hn
      rw [ordF_step _ _ _ _ h, ordF_step _ _ _ _ h']
      have a1 := ih (pA L n) o o' (by omega) (by omega) hT hT' hs
      have a2 := ih (pB L n) _ _ (by omega) (by omega) (ordF_told hG f _ _ (by omega) (by omega) hT) (ordF_told hG f _ _ (by omega) (by omega) hT') a1.2
      refine ⟨by simp only [List.length_append, List.length_cons, List.length_nil]; omega, ?_⟩
      intro x hx
      rcases List.mem_append.1 hx with hx | hx
      · exact List.mem_append_left _ (a2.2 x hx)
      · exact List.mem_append_right _ hx

theorem outs_len (L : List Tm) (o : List Nat) : (outs L o).length = o.length := by simp [outs]
/-- A part's dag begins the whole's; the whole is no longer than both and itself. -/
theorem dag_parts {L : List Tm} (hG : Good L) {n : Nat} (h1 : 1 ≤ n) (h2 : n ≤ L.length) :
    (outs L (ord L n)).take (outs L (ord L (pA L n))).length = outs L (ord L (pA L n)) ∧ (outs L (ord L (pA L n))).length < (outs L (ord L n)).length ∧ (outs L (ord L n)).length ≤ (outs L (ord L (pA L n))).length + (outs L (ord L (pB L n))).length + 1 := by
  obtain ⟨p1, p2⟩ := hG.parts h1 h2
  have e := ord_eq hG h1 h2
  have hA := ord_told hG (n := pA L n) (by omega)
  have hN := ord_told hG h2
  obtain ⟨r, er⟩ := ordF_prefix L (pB L n) (pB L n) (ord L (pA L n))
  have hl := (ordF_less hG (pB L n) (pB L n) (ord L (pA L n)) [] (by omega) (Nat.le_refl _) hA (told_nil L) (by simp)).1
  have hB : ordF L (pB L n) (pB L n) [] = ord L (pB L n) := rfl
  rw [hB] at hl
  have e2 : ord L n = ord L (pA L n) ++ (r ++ [n]) := by rw [e, er]; simp
  refine ⟨?_, ?_, ?_⟩
  · rw [e2] at hN ⊢
    rw [outs_append hA hN, List.take_left']
    rfl
  · rw [outs_len, outs_len, e2, List.length_append, List.length_append]; simp only [List.length_cons, List.length_nil]; omega
  · rw [outs_len, outs_len, outs_len, e]; simp at hl ⊢; omega

/-! Two stores. -/
/-- Each term of L has the number φ in R, with its parts. -/
structure Maps (L R : List Tm) (φ : Nat → Nat) : Prop where
  zero : φ 0 = 0
  rng : ∀ m, 1 ≤ m → m ≤ L.length → 1 ≤ φ m ∧ φ m ≤ R.length
  inj : ∀ m k, m ≤ L.length → k ≤ L.length → φ m = φ k → m = k
  at_ : ∀ m, 1 ≤ m → m ≤ L.length → (tmAt R (φ m)).kd = (tmAt L m).kd ∧ (tmAt R (φ m)).n = (tmAt L m).n ∧ pA R (φ m) = φ (pA L m) ∧ pB R (φ m) = φ (pB L m)
theorem Maps.mem {L R : List Tm} {φ : Nat → Nat} (h : Maps L R φ) {o : List Nat} (ho : ∀ m ∈ o, m ≤ L.length) {k : Nat} (hk : k ≤ L.length) : φ k ∈ o.map φ ↔ k ∈ o := by
  constructor
  · intro c
    obtain ⟨x, hx, e⟩ := List.mem_map.1 c
    rw [← h.inj x k (ho x hx) hk e]; exact hx
  · exact fun c => List.mem_map_of_mem c
theorem Maps.null {L R : List Tm} {φ : Nat → Nat} (h : Maps L R φ) {k : Nat} (hk : k ≤ L.length) : φ k = 0 ↔ k = 0 := by
  constructor
  · intro c
    apply h.inj k 0 hk (Nat.zero_le _)
    rw [c, h.zero]
  · rintro rfl; exact h.zero
theorem ordF_map {L R : List Tm} {φ : Nat → Nat} (hL : Good L) (hR : Good R) (h : Maps L R φ) (f g n : Nat) (o : List Nat) (hn : n ≤ L.length) (hf : n ≤ f) (hg : φ n ≤ g) (ho : ∀ m ∈ o, m ≤ L.length) :
    ordF R g (φ n) (o.map φ) = (ordF L f n o).map φ := by
  induction f generalizing g n o with
  | zero =>
    have : n = 0 := by omega
    subst this
    rw [h.zero, ordF_skip _ _ _ _ (Or.inl rfl), ordF_skip _ _ _ _ (Or.inl rfl)]
  | succ f ih =>
    by_cases hs : n = 0 ∨ n ∈ o
    · have : φ n = 0 ∨ φ n ∈ o.map φ := hs.imp (h.null hn).2 (h.mem ho hn).2
      rw [ordF_skip _ _ _ _ hs, ordF_skip _ _ _ _ this]
    · have h0 : n ≠ 0 := fun q => hs (Or.inl q)
      have hs' : ¬ (φ n = 0 ∨ φ n ∈ o.map φ) := by
        rintro (c | c)
        · exact h0 ((h.null hn).1 c)
        · exact hs (Or.inr ((h.mem ho hn).1 c))
      obtain ⟨p1, p2⟩ := hL.parts (m := n) (by omega) hn
      have hr := h.rng n (by omega) hn
      obtain ⟨_, _, ea, eb⟩ := h.at_ n (by omega) hn
      obtain ⟨q1, q2⟩ := hR.parts hr.1 hr.2
      rw [ea] at q1
      rw [eb] at q2
      cases g with
      | zero => omega
      | succ g =>
        rw [ordF_step _ _ _ _ hs, ordF_step _ _ _ _ hs', ea, eb]
        have ho1 : ∀ m ∈ ordF L f (pA L n) o, m ≤ L.length := fun m hm => by
          rcases ordF_le hL f _ _ m hm (by omega) with c | c
          · exact ho m c
          · omega
        rw [ih g (pA L n) o (by omega) (by omega) (by omega) ho, ih g (pB L n) _ (by omega) (by omega) (by omega) ho1]
        simp
theorem idxOf_map {φ : Nat → Nat} {k : Nat} : ∀ (o : List Nat), (∀ x ∈ o, φ x = φ k → x = k) → (o.map φ).idxOf (φ k) = o.idxOf k
  | [], _ => by simp
  | x :: r, h => by
    rw [List.map_cons, List.idxOf_cons, List.idxOf_cons]
    by_cases e : x = k
    · subst e; simp
    · have e1 : ¬ φ x = φ k := fun c => e (h x (by simp) c)
      have b1 : (φ x == φ k) = false := by simpa using e1
      have b2 : (x == k) = false := by simpa using e
      rw [b1, b2, idxOf_map r (fun y hy => h y (by simp [hy]))]
theorem outs_map {L R : List Tm} {φ : Nat → Nat} (hL : Good L) (h : Maps L R φ) {o : List Nat} (ho : Told L o) : outs R (o.map φ) = outs L o := by
  unfold outs
  rw [List.map_map]
  apply List.map_congr_left
  intro m hm
  have hr := ho.rng m hm
  obtain ⟨p1, p2⟩ := hL.parts hr.1 hr.2
  obtain ⟨e1, e2, e3, e4⟩ := h.at_ m hr.1 hr.2
  have hp : ∀ k, k ≤ L.length → pos (o.map φ) (φ k) = pos o k := fun k hk => by
    unfold pos
    have hmem := h.mem (o := o) (fun x hx => (ho.rng x hx).2) hk
    by_cases c : k ∈ o
    · rw [if_pos c, if_pos (hmem.2 c), idxOf_map o (fun x hx e => h.inj x k (ho.rng x hx).2 hk e)]
    · rw [if_neg c, if_neg (fun q => c (hmem.1 q))]
  show tr (o.map φ) (tmAt R (φ m)) = tr o (tmAt L m)
  rw [tr_at, tr_at, e1, e2, e3, e4, hp _ (by omega), hp _ (by omega)]
/-- A term is told in the same way in both stores. -/
theorem dag_map {L R : List Tm} {φ : Nat → Nat} (hL : Good L) (hR : Good R) (h : Maps L R φ) {n : Nat} (hn : n ≤ L.length) : outs R (ord R (φ n)) = outs L (ord L n) := by
  have e := ordF_map hL hR h n (φ n) n [] hn (Nat.le_refl _) (Nat.le_refl _) (by simp)
  simp only [List.map_nil] at e
  unfold ord
  rw [e]
  exact outs_map hL h (ord_told hL hn)

theorem pos_pos {o : List Nat} {k : Nat} (h : k ∈ o) : o[pos o k - 1]? = some k ∧ 1 ≤ pos o k := by
  have := List.idxOf_lt_length_iff.2 h
  simp only [pos, h, if_true, Nat.add_sub_cancel]
  refine ⟨?_, by omega⟩
  rw [List.getElem?_eq_getElem this, List.getElem_idxOf]
theorem Good.tmAt_inj {L : List Tm} (h : Good L) {m k : Nat} (h1 : 1 ≤ m) (h2 : m ≤ L.length) (k1 : 1 ≤ k) (k2 : k ≤ L.length) (e : tmAt L m = tmAt L k) : m = k := by
  have a1 : m - 1 < L.length := by omega
  have a2 : k - 1 < L.length := by omega
  have e1 : tmAt L m = L[m - 1] := by simp [tmAt, List.getD, List.getElem?_eq_getElem a1]
  have e2 : tmAt L k = L[k - 1] := by simp [tmAt, List.getD, List.getElem?_eq_getElem a2]
  rw [e1, e2] at e
  have := (List.getElem_inj h.nodup).1 e
  omega
theorem Good.tmAt_parts {L : List Tm} (h : Good L) {m : Nat} (h1 : 1 ≤ m) (h2 : m ≤ L.length) : (tmAt L m).a = (pA L m : Nat) ∧ (tmAt L m).b = (pB L m : Nat) := by
  have a1 : m - 1 < L.length := by omega
  have e : L[m - 1]? = some (tmAt L m) := by simp [tmAt, List.getD, List.getElem?_eq_getElem a1]
  have := may_parts (h.may _ _ e)
  unfold pA pB
  omega
/-- The last one that is told is the term itself. -/
theorem ord_last {L : List Tm} (hG : Good L) {n : Nat} (h1 : 1 ≤ n) (h2 : n ≤ L.length) : ∃ r, ord L n = r ++ [n] := ⟨_, ord_eq hG h1 h2⟩
/-- Lists that are told alike are of the same numbers. -/
theorem outs_inj {L : List Tm} (hG : Good L) {o o' : List Nat} (h : Told L o) (h' : Told L o') (e : outs L o = outs L o') : o = o' := by
  have hlen : o.length = o'.length := by have := congrArg List.length e; rwa [outs_len, outs_len] at this
  have key : ∀ (i m m' : Nat), o[i]? = some m → o'[i]? = some m' → m = m' := by
    intro i
    induction i using Nat.strongRecOn with
    | _ i ih =>
      intro m m' hm hm'
      have r := h.rng m (List.mem_of_getElem? hm)
      have r' := h'.rng m' (List.mem_of_getElem? hm')
      have e1 : (outs L o)[i]? = some (tr o (tmAt L m)) := by simp [outs, hm]
      have e2 : (outs L o')[i]? = some (tr o' (tmAt L m')) := by simp [outs, hm']
      rw [e, e2] at e1
      have e3 := Option.some.inj e1
      rw [tr_at, tr_at] at e3
      have k1 := congrArg Tm.kd e3
      have k2 := congrArg Tm.n e3
      have k3 := congrArg Tm.a e3
      have k4 := congrArg Tm.b e3
      simp only at k1 k2 k3 k4
      have k3' := Int.ofNat.inj k3
      have k4' := Int.ofNat.inj k4
      obtain ⟨q1, q2⟩ := h.part i m hm
      obtain ⟨q1', q2'⟩ := h'.part i m' hm'
      have same : ∀ x y, (x = 0 ∨ x ∈ o.take i) → (y = 0 ∨ y ∈ o'.take i) → pos o' y = pos o x → x = y := by
        intro x y hx hy hp
        rcases hx with rfl | hx
        · rcases hy with rfl | hy
          · rfl
          · have := (pos_pos (List.mem_of_mem_take hy)).2
            have z : pos o 0 = 0 := by simp [pos, h.zero]
            omega
        · have px := pos_pos (List.mem_of_mem_take hx)
          rcases hy with rfl | hy
          · have z : pos o' 0 = 0 := by simp [pos, h'.zero]
            omega
          · have py := pos_pos (List.mem_of_mem_take hy)
            rw [hp] at py
            refine ih (pos o x - 1) ?_ x y px.1 py.1
            obtain ⟨j, hj⟩ := List.getElem?_of_mem hx
            rw [List.getElem?_take] at hj
            split at hj
            · rename_i hji
              obtain ⟨l1, g1⟩ := List.getElem?_eq_some_iff.1 hj
              obtain ⟨l2, g2⟩ := List.getElem?_eq_some_iff.1 px.1
              have := (List.getElem_inj h.nodup).1 (g1.trans g2.symm)
              omega
            · cases hj
      have ea := same _ _ q1 q1' k3'
      have eb := same _ _ q2 q2' k4'
      apply hG.tmAt_inj r.1 r.2 r'.1 r'.2
      obtain ⟨s1, s2⟩ := hG.tmAt_parts r.1 r.2
      obtain ⟨t1, t2⟩ := hG.tmAt_parts r'.1 r'.2
      cases hx : tmAt L m with
      | mk a1 a2 a3 a4 =>
        cases hy : tmAt L m' with
        | mk b1 b2 b3 b4 =>
          rw [hx] at s1 s2 k1 k2
          rw [hy] at t1 t2 k1 k2
          simp only at s1 s2 t1 t2 k1 k2
          rw [s1, s2, t1, t2, ea, eb, k1, k2]
  apply List.ext_getElem? 
  intro i
  rcases Nat.lt_or_ge i o.length with q | q
  · have q' : i < o'.length := by omega
    rw [List.getElem?_eq_getElem q, List.getElem?_eq_getElem q']
    congr 1
    exact key i _ _ (List.getElem?_eq_getElem q) (List.getElem?_eq_getElem q')
  · rw [List.getElem?_eq_none q, List.getElem?_eq_none (by omega)]
/-- Unlike terms are told apart. -/
theorem dag_inj {L : List Tm} (hG : Good L) {m n : Nat} (h1 : 1 ≤ m) (h2 : m ≤ L.length) (k1 : 1 ≤ n) (k2 : n ≤ L.length) (e : outs L (ord L m) = outs L (ord L n)) : m = n := by
  have := outs_inj hG (ord_told hG h2) (ord_told hG k2) e
  obtain ⟨r, er⟩ := ord_last hG h1 h2
  obtain ⟨s, es⟩ := ord_last hG k1 k2
  rw [er, es] at this
  have := congrArg List.getLast? this
  simpa using this

end Go.Proofs.Ytokdflbajnecpaa.Tn
