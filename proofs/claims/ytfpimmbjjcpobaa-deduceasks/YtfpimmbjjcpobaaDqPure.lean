/- The document's way to what follows: the rules are gone through until nothing comes. Nothing here speaks of the program. -/
import Derived.Test.YtfpimmbjjcpobaaDdPure
namespace Go.Proofs.Ytfpimmbjjcpobaa

theorem set_on {G : List Bool} {m : Nat} (h : On G m) : G.set m true = G := by
  have hl := h.lt
  unfold On at h
  rw [List.getElem?_eq_getElem hl] at h
  have e : G[m] = true := by simpa using h
  conv => lhs; rw [← e]
  exact List.set_getElem_self hl
theorem nf_set_le (G : List Bool) (m : Nat) : nf (G.set m true) ≤ nf G := by
  by_cases h : m < G.length
  · by_cases o : On G m
    · rw [set_on o]; exact Nat.le_refl _
    · have := nf_set h o; omega
  · rw [List.set_eq_of_length_le (by omega)]; exact Nat.le_refl _
theorem not_onB {G : List Bool} {m : Nat} : onB G m = false ↔ ¬ On G m := by
  rw [← onB_iff]; simp
/-- Does a term follow, or is there none? -/
def hs0 (G : List Bool) (m : Nat) : Bool := decide (m = 0) || onB G m
theorem hs0_iff {G : List Bool} {m : Nat} : hs0 G m = true ↔ (m ≠ 0 → On G m) := by
  unfold hs0
  rw [Bool.or_eq_true, decide_eq_true_eq, onB_iff]
  constructor
  · rintro (h | h) q
    · exact absurd h q
    · exact h
  · intro h
    by_cases e : m = 0
    · exact Or.inl e
    · exact Or.inr (h e)
def mkR (L : List Tm) (G : List Bool) (m : Nat) : Bool := !decide (kdOf L m = 1) && hs0 G (pA L m) && hs0 G (pB L m)
theorem mkR_iff {L : List Tm} {G : List Bool} {m : Nat} : mkR L G m = true ↔ kdOf L m ≠ 1 ∧ (pA L m ≠ 0 → On G (pA L m)) ∧ (pB L m ≠ 0 → On G (pB L m)) := by
  unfold mkR
  rw [Bool.and_eq_true, Bool.and_eq_true, hs0_iff, hs0_iff]
  simp [and_assoc]
/-- What a term gives away: the marks then; has something come? -/
def gvG (L : List Tm) (G : List Bool) (m : Nat) : List Bool :=
  if kdOf L m = 3 then (G.set (pA L m) true).set (pB L m) true else if kdOf L m = 6 ∧ onB G (opn L m) = true then G.set (pB L m) true else G
def gvM (L : List Tm) (G : List Bool) (m : Nat) : Bool :=
  if kdOf L m = 3 then !onB G (pA L m) || !onB G (pB L m) else if kdOf L m = 6 ∧ onB G (opn L m) = true then !onB G (pB L m) else false
theorem gvG_len (L : List Tm) (G : List Bool) (m : Nat) : (gvG L G m).length = G.length := by
  unfold gvG; split
  · simp
  · split <;> simp
theorem gv_nf (L : List Tm) (G : List Bool) (m : Nat) : nf (gvG L G m) ≤ nf G := by
  unfold gvG; split
  · exact Nat.le_trans (nf_set_le _ _) (nf_set_le _ _)
  · split
    · exact nf_set_le _ _
    · exact Nat.le_refl _
theorem gv_same {L : List Tm} {G : List Bool} {m : Nat} (h : gvM L G m = false) : gvG L G m = G := by
  unfold gvM at h
  unfold gvG
  by_cases c : kdOf L m = 3
  · rw [if_pos c] at h ⊢
    simp only [Bool.or_eq_false_iff, Bool.not_eq_false', onB_iff] at h
    rw [set_on h.1, set_on h.2]
  · rw [if_neg c] at h ⊢
    by_cases d : kdOf L m = 6 ∧ onB G (opn L m) = true
    · rw [if_pos d] at h ⊢
      simp only [Bool.not_eq_false', onB_iff] at h
      exact set_on h
    · rw [if_neg d]
theorem gv_less {L : List Tm} {G : List Bool} {m : Nat} (hA : pA L m < G.length) (hB : pB L m < G.length) (h : gvM L G m = true) : nf (gvG L G m) < nf G := by
  unfold gvM at h
  unfold gvG
  by_cases c : kdOf L m = 3
  · rw [if_pos c] at h ⊢
    simp only [Bool.or_eq_true, Bool.not_eq_true', not_onB] at h
    by_cases o : On G (pA L m)
    · have ob : ¬ On G (pB L m) := h.elim (fun q => absurd o q) id
      rw [set_on o]
      have := nf_set hB ob; omega
    · have h1 := nf_set hA o
      have h2 := nf_set_le (G.set (pA L m) true) (pB L m)
      omega
  · rw [if_neg c] at h ⊢
    by_cases d : kdOf L m = 6 ∧ onB G (opn L m) = true
    · rw [if_pos d] at h ⊢
      simp only [Bool.not_eq_true', not_onB] at h
      have := nf_set hB h; omega
    · rw [if_neg d] at h; cases h
/-- Marks that say nothing wrong, and all that is known. -/
structure Sq (L : List Tm) (K : Nat → Prop) (G : List Bool) : Prop where
  len : G.length = L.length + 1
  sound : ∀ m, 1 ≤ m → On G m → Fol L K m
  known : ∀ m, 1 ≤ m → m ≤ L.length → K m → On G m
theorem Sq.set {L : List Tm} {K : Nat → Prop} {G : List Bool} (h : Sq L K G) {m : Nat} (hf : Fol L K m) : Sq L K (G.set m true) := by
  refine ⟨by simpa using h.len, fun x q1 q2 => ?_, fun x q1 q2 q3 => ?_⟩
  · by_cases hm : m < G.length
    · rcases (on_set hm).1 q2 with c | c
      · rw [c]; exact hf
      · exact h.sound x q1 c
    · rw [List.set_eq_of_length_le (by omega)] at q2; exact h.sound x q1 q2
  · have := h.known x q1 q2 q3
    by_cases hm : m < G.length
    · exact (on_set hm).2 (Or.inr this)
    · rw [List.set_eq_of_length_le (by omega)]; exact this
theorem Sq.make {L : List Tm} {K : Nat → Prop} {G : List Bool} (h : Sq L K G) {m : Nat} (h1 : 1 ≤ m) (h2 : m ≤ L.length) (hk : mkR L G m = true) : Sq L K (G.set m true) := by
  obtain ⟨k1, k2, k3⟩ := mkR_iff.1 hk
  exact h.set (.make h1 h2 k1 (fun z => h.sound _ (by omega) (k2 z)) (fun z => h.sound _ (by omega) (k3 z)))
theorem Sq.give {L : List Tm} {K : Nat → Prop} {G : List Bool} (h : Sq L K G) (hG : Good L) {m : Nat} (h1 : 1 ≤ m) (h2 : m ≤ L.length) (ho : On G m) : Sq L K (gvG L G m) := by
  have hf := h.sound m h1 ho
  unfold gvG
  split
  · rename_i c; exact (h.set (.pairA hf c)).set (.pairB hf c)
  · split
    · rename_i c; exact h.set (.opens hf c.1 (h.sound _ (hG.opn h1 h2 c.1).1 (onB_iff.1 c.2)))
    · exact h
/-- Nothing comes of the term m. -/
structure Okm (L : List Tm) (G : List Bool) (m : Nat) : Prop where
  make : mkR L G m = true → On G m
  give : On G m → gvM L G m = false
theorem Sq.tells {L : List Tm} {K : Nat → Prop} {G : List Bool} (h : Sq L K G) (hG : Good L) (ha : ∀ m, 1 ≤ m → m ≤ L.length → Okm L G m) {m : Nat} (h1 : 1 ≤ m) : On G m ↔ Fol L K m := by
  constructor
  · exact h.sound m h1
  · intro f
    refine f.least hG (S := On G) ⟨fun x q1 q2 q3 q4 q5 => (ha x q1 q2).make (mkR_iff.2 ⟨q3, q4, q5⟩), fun x q1 q2 q3 q4 => ?_, fun x q1 q2 q3 q4 => ?_, fun x q1 q2 q3 q4 q5 => ?_⟩ (fun x q1 q2 q3 => h.known x q1 q2 q3)
    · have := (ha x q1 q2).give q3
      unfold gvM at this
      rw [if_pos q4] at this
      simp only [Bool.or_eq_false_iff, Bool.not_eq_false', onB_iff] at this
      exact this.1
    · have := (ha x q1 q2).give q3
      unfold gvM at this
      rw [if_pos q4] at this
      simp only [Bool.or_eq_false_iff, Bool.not_eq_false', onB_iff] at this
      exact this.2
    · have := (ha x q1 q2).give q3
      unfold gvM at this
      rw [if_neg (by rw [q4]; decide), if_pos ⟨q4, onB_iff.2 q5⟩] at this
      simp only [Bool.not_eq_false', onB_iff] at this
      exact this
/-- A pass, at the term n: what has come so far. -/
structure Ps (L : List Tm) (K : Nat → Prop) (G0 G : List Bool) (more : Bool) (n : Nat) : Prop where
  sq : Sq L K G
  le : nf G ≤ nf G0
  lt : more = true → nf G < nf G0
  ok : more = false → ∀ m, 1 ≤ m → m < n → Okm L G m
theorem Ps.start {L : List Tm} {K : Nat → Prop} {G : List Bool} (h : Sq L K G) : Ps L K G G false 1 := ⟨h, Nat.le_refl _, fun c => by (cases c), fun _ m h1 h2 => by omega⟩
/-- It may be made, and is marked. -/
theorem Ps.made {L : List Tm} {K : Nat → Prop} {G0 G : List Bool} {more : Bool} {n : Nat} (h : Ps L K G0 G more n) (h1 : 1 ≤ n) (h2 : n ≤ L.length) (ho : onB G n = false) (hk : mkR L G n = true) : Ps L K G0 (G.set n true) true n := by
  have := nf_set (F := G) (n := n) (by have := h.sq.len; omega) (not_onB.1 ho)
  have := h.le
  exact ⟨h.sq.make h1 h2 hk, by omega, fun _ => by omega, fun c => by (cases c)⟩
/-- It gives something away. -/
theorem Ps.gave {L : List Tm} {K : Nat → Prop} {G0 G : List Bool} {more : Bool} {n : Nat} (h : Ps L K G0 G more n) (hG : Good L) (h1 : 1 ≤ n) (h2 : n ≤ L.length) (ho : On G n) (hm : gvM L G n = true) : Ps L K G0 (gvG L G n) true (n + 1) := by
  have hp := hG.parts h1 h2
  have := gv_less (L := L) (G := G) (m := n) (by have := h.sq.len; omega) (by have := h.sq.len; omega) hm
  have := h.le
  exact ⟨h.sq.give hG h1 h2 ho, by omega, fun _ => by omega, fun c => by (cases c)⟩
/-- It gives nothing. -/
theorem Ps.gave0 {L : List Tm} {K : Nat → Prop} {G0 G : List Bool} {more : Bool} {n : Nat} (h : Ps L K G0 G more n) (ho : On G n) (hm : gvM L G n = false) : Ps L K G0 (gvG L G n) more (n + 1) := by
  rw [gv_same hm]
  refine ⟨h.sq, h.le, h.lt, fun c m q1 q2 => ?_⟩
  by_cases e : m = n
  · subst e; exact ⟨fun _ => ho, fun _ => hm⟩
  · exact h.ok c m q1 (by omega)
/-- It does not follow. -/
theorem Ps.skip {L : List Tm} {K : Nat → Prop} {G0 G : List Bool} {more : Bool} {n : Nat} (h : Ps L K G0 G more n) (ho : onB G n = false) (hk : mkR L G n = false) : Ps L K G0 G more (n + 1) := by
  refine ⟨h.sq, h.le, h.lt, fun c m q1 q2 => ?_⟩
  by_cases e : m = n
  · subst e; exact ⟨fun q => absurd q (by rw [hk]; decide), fun q => absurd q (not_onB.1 ho)⟩
  · exact h.ok c m q1 (by omega)
/-- New ones, that don't follow yet. -/
theorem on_false {G : List Bool} {k m : Nat} : On (G ++ List.replicate k false) m ↔ On G m := by
  unfold On
  rcases Nat.lt_or_ge m G.length with c | c
  · rw [List.getElem?_append_left c]
  · rw [List.getElem?_append_right c, List.getElem?_eq_none c]
    simp only [List.getElem?_replicate]
    split <;> simp

end Go.Proofs.Ytfpimmbjjcpobaa
