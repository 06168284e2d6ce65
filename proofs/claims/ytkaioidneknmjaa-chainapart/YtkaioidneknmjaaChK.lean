/- Which term a secret or a key is, plainly. -/
import Derived.Test.YtkaioidneknmjaaChJ
namespace Go.Proofs.Ytkaioidneknmjaa.Tn
open Go.RowKit Go.Maps

/-- The term of that number. -/
def At (L : List Tm) (x : Nat) (t : Tm) : Prop := 1 ≤ x ∧ L[x - 1]? = some t
def Pre (L L' : List Tm) : Prop := ∃ r, L' = L ++ r
theorem Pre.refl (L : List Tm) : Pre L L := ⟨[], by simp⟩
theorem Pre.trans {L L' L'' : List Tm} (h : Pre L L') (k : Pre L' L'') : Pre L L'' := by obtain ⟨r, rfl⟩ := h; obtain ⟨q, rfl⟩ := k; exact ⟨r ++ q, by simp⟩
theorem Pre.mk (L : List Tm) (t : Tm) : Pre L (mkL L t) := mkL_prefix L t
theorem Pre.len {L L' : List Tm} (h : Pre L L') : L.length ≤ L'.length := by obtain ⟨r, rfl⟩ := h; simp
theorem At.le {L : List Tm} {x : Nat} {t : Tm} (h : At L x t) : 1 ≤ x ∧ x ≤ L.length := ⟨h.1, by have := (List.getElem?_eq_some_iff.1 h.2).1; have := h.1; omega⟩
theorem At.pre {L L' : List Tm} {x : Nat} {t : Tm} (h : At L x t) (hp : Pre L L') : At L' x t := by
  obtain ⟨r, rfl⟩ := hp
  refine ⟨h.1, ?_⟩
  rw [List.getElem?_append_left (List.getElem?_eq_some_iff.1 h.2).1]
  exact h.2
theorem At.fn {L : List Tm} {x : Nat} {t t' : Tm} (h : At L x t) (k : At L x t') : t = t' := by have := h.2.symm.trans k.2; simpa using this
theorem At.tm {L : List Tm} {x : Nat} {t : Tm} (h : At L x t) : tmAt L x = t := by unfold tmAt; rw [List.getD, h.2]; rfl
theorem At.inj {L : List Tm} {x y : Nat} {t : Tm} (hG : Good L) (h : At L x t) (k : At L y t) : x = y :=
  hG.tmAt_inj h.le.1 h.le.2 k.le.1 k.le.2 (h.tm.trans k.tm.symm)
theorem at_mk {L : List Tm} {t : Tm} (hm : may L.length t = true) (hl : L.length < 1048576) : At (mkL L t) (mkN L t) t := by
  obtain ⟨_, h2, h3⟩ := mk_ok hm hl
  rw [h2]
  exact ⟨(num_get h3).2, (num_get h3).1⟩
/-- The secret of a number; the key of one. -/
def IsSec (L : List Tm) (app snd : Int) : Nat → Nat → Prop
  | 0, x => ∃ D : Nat, At L x ⟨4, 9, app, (D : Nat)⟩ ∧ At L D ⟨2, snd, 0, 0⟩
  | n + 1, x => ∃ y : Nat, At L x ⟨4, 10, (y : Nat), 0⟩ ∧ IsSec L app snd n y
def IsKey (L : List Tm) (app snd : Int) (n k : Nat) : Prop := ∃ x : Nat, At L k ⟨4, 11, (x : Nat), 0⟩ ∧ IsSec L app snd n x
theorem IsSec.pre {L L' : List Tm} {app snd : Int} (hp : Pre L L') : ∀ {n x : Nat}, IsSec L app snd n x → IsSec L' app snd n x
  | 0, _, ⟨D, h1, h2⟩ => ⟨D, h1.pre hp, h2.pre hp⟩
  | _ + 1, _, ⟨y, h1, h2⟩ => ⟨y, h1.pre hp, IsSec.pre hp h2⟩
theorem IsKey.pre {L L' : List Tm} {app snd : Int} {n k : Nat} (h : IsKey L app snd n k) (hp : Pre L L') : IsKey L' app snd n k := by obtain ⟨x, h1, h2⟩ := h; exact ⟨x, h1.pre hp, h2.pre hp⟩
theorem IsSec.fn {L : List Tm} {app a b : Int} : ∀ {n m x : Nat}, IsSec L app a n x → IsSec L app b m x → a = b ∧ n = m
  | 0, 0, _, ⟨D, h1, h2⟩, ⟨E, k1, k2⟩ => by
    have e := h1.fn k1
    simp only [Tm.mk.injEq, true_and] at e
    have : D = E := by omega
    subst this
    have e2 := h2.fn k2
    simp only [Tm.mk.injEq, and_true, true_and] at e2
    exact ⟨e2, rfl⟩
  | 0, _ + 1, _, ⟨D, h1, _⟩, ⟨y, k1, _⟩ => by
    have e := h1.fn k1
    simp at e
  | _ + 1, 0, _, ⟨y, h1, _⟩, ⟨D, k1, _⟩ => by
    have e := h1.fn k1
    simp at e
  | _ + 1, _ + 1, _, ⟨y, h1, h2⟩, ⟨z, k1, k2⟩ => by
    have e := h1.fn k1
    simp only [Tm.mk.injEq, true_and, and_true] at e
    have : y = z := by omega
    subst this
    have := IsSec.fn h2 k2
    exact ⟨this.1, by omega⟩
theorem IsSec.inj {L : List Tm} (hG : Good L) {app a : Int} : ∀ {n x y : Nat}, IsSec L app a n x → IsSec L app a n y → x = y
  | 0, _, _, ⟨D, h1, h2⟩, ⟨E, k1, k2⟩ => by
    have := h2.inj hG k2
    subst this
    exact h1.inj hG k1
  | _ + 1, _, _, ⟨y, h1, h2⟩, ⟨z, k1, k2⟩ => by
    have := IsSec.inj hG h2 k2
    subst this
    exact h1.inj hG k1
theorem IsKey.eq_iff {L : List Tm} (hG : Good L) {app a b : Int} {n m k k' : Nat} (h : IsKey L app a n k) (q : IsKey L app b m k') : k = k' ↔ a = b ∧ n = m := by
  obtain ⟨x, h1, h2⟩ := h
  obtain ⟨y, q1, q2⟩ := q
  constructor
  · rintro rfl
    have e := h1.fn q1
    simp only [Tm.mk.injEq, true_and, and_true] at e
    have : x = y := by omega
    subst this
    exact h2.fn q2
  · rintro ⟨rfl, rfl⟩
    have := h2.inj hG q2
    subst this
    exact h1.inj hG q1
theorem IsSec.le {L : List Tm} {app a : Int} : ∀ {n x : Nat}, IsSec L app a n x → 1 ≤ x ∧ x ≤ L.length
  | 0, _, ⟨_, h1, _⟩ => h1.le
  | _ + 1, _, ⟨_, h1, _⟩ => h1.le
/-! What is made. -/
theorem beg_pre (L : List Tm) (app snd : Int) : Pre L (beg L app snd).1 := (Pre.mk L _).trans (Pre.mk _ _)
theorem beg_good {L : List Tm} (h : Good L) (app snd : Int) : Good (beg L app snd).1 := (h.made _).made _
theorem nxS_pre (p : List Tm × Nat) : Pre p.1 (nxS p).1 := Pre.mk _ _
theorem kyS_pre (p : List Tm × Nat) : Pre p.1 (kyS p).1 := Pre.mk _ _
theorem secs_pre (p : List Tm × Nat) : ∀ n, Pre p.1 (secs p n).1
  | 0 => Pre.refl _
  | n + 1 => (secs_pre p n).trans (nxS_pre _)
theorem secs_good {p : List Tm × Nat} (h : Good p.1) : ∀ n, Good (secs p n).1
  | 0 => h
  | n + 1 => (secs_good h n).made _
theorem beg_is {L : List Tm} {app snd : Int} (ha : thr L.length app = true) (hl : L.length + 2 ≤ 1048576) : IsSec (beg L app snd).1 app snd 0 (beg L app snd).2 := by
  have l1 := mkL_len L ⟨2, snd, 0, 0⟩
  have a1 : At (mkL L ⟨2, snd, 0, 0⟩) (mkN L ⟨2, snd, 0, 0⟩) ⟨2, snd, 0, 0⟩ := at_mk (may_dat11 _ _) (by omega)
  refine ⟨mkN L ⟨2, snd, 0, 0⟩, at_mk (may_kdf (by omega) (thr_mono ha (mkL_le _ _)) (Or.inr ?_)) (by omega), a1.pre (Pre.mk _ _)⟩
  exact thr_iff.2 (by have := a1.le; omega)
theorem nx_is {p : List Tm × Nat} {app snd : Int} {n : Nat} (h : IsSec p.1 app snd n p.2) (hl : p.1.length < 1048576) : IsSec (nxS p).1 app snd (n + 1) (nxS p).2 :=
  ⟨p.2, at_mk (may_nx ⟨h.le.1, h.le.2⟩ 10 (by omega)) hl, h.pre (nxS_pre p)⟩
theorem ky_is {p : List Tm × Nat} {app snd : Int} {n : Nat} (h : IsSec p.1 app snd n p.2) (hl : p.1.length < 1048576) : IsKey (kyS p).1 app snd n (kyS p).2 :=
  ⟨p.2, at_mk (may_nx ⟨h.le.1, h.le.2⟩ 11 (by omega)) hl, h.pre (kyS_pre p)⟩
theorem secs_is {p : List Tm × Nat} {app snd : Int} {k : Nat} (h : IsSec p.1 app snd k p.2) : ∀ n, p.1.length + n ≤ 1048576 → IsSec (secs p n).1 app snd (k + n) (secs p n).2
  | 0, _ => h
  | n + 1, hl => nx_is (secs_is h n (by omega)) (by have := secs_len p n; omega)
/-- What Key gives. -/
theorem key_is {L : List Tm} {app snd : Int} {n : Nat} (ha : thr L.length app = true) (hn : n ≤ 65536) (hl : L.length + 65540 ≤ 1048575) (hG : Good L) : keyE L app (n : Int) = 0 ∧ IsKey (keyP L app snd (n : Int)).1 app snd n (keyP L app snd (n : Int)).2 ∧ Pre L (keyP L app snd (n : Int)).1 ∧ Good (keyP L app snd (n : Int)).1 ∧ (keyP L app snd (n : Int)).1.length ≤ L.length + n + 3 := by
  have e : keyE L app (n : Int) = 0 := by unfold keyE; rw [ha, if_pos (by simp), if_neg (by omega)]
  have hb := beg_len L app snd
  have hs := secs_len (beg L app snd) n
  have hi := secs_is (beg_is (snd := snd) ha (by omega)) n (by omega)
  rw [Nat.zero_add] at hi
  unfold keyP
  rw [if_pos e, Int.toNat_natCast]
  refine ⟨e, ky_is hi (by omega), ?_, ?_, ?_⟩
  · exact ((beg_pre L app snd).trans (secs_pre _ _)).trans (kyS_pre _)
  · exact (secs_good (beg_good hG app snd) n).made _
  · have := kyS_len (secs (beg L app snd) n)
    omega
end Go.Proofs.Ytkaioidneknmjaa.Tn
