/- The terms of one store among those of another: plain lists. -/
import Derived.Test.YtokdflbajnecpaaNTmPureB
namespace Go.Proofs.Ytokdflbajnecpaa.Tn

/-- A term with its parts' numbers in the other store. -/
def mapT (ph : List Nat) (t : Tm) : Tm := ⟨t.kd, t.n, (ph.getD t.a.toNat 0 : Nat), (ph.getD t.b.toNat 0 : Nat)⟩
/-- The first i terms of L have the numbers ph in R. -/
structure Acr (L : List Tm) (i : Nat) (R : List Tm) (ph : List Nat) : Prop where
  good : Good R
  len : ph.length = i + 1
  zero : ph.getD 0 0 = 0
  rng : ∀ m, 1 ≤ m → m ≤ i → 1 ≤ ph.getD m 0 ∧ ph.getD m 0 ≤ R.length
  at_ : ∀ m, 1 ≤ m → m ≤ i → tmAt R (ph.getD m 0) = mapT ph (tmAt L m)
theorem acr_start {R : List Tm} (h : Good R) (L : List Tm) : Acr L 0 R [0] := ⟨h, rfl, rfl, fun m h1 h2 => by omega, fun m h1 h2 => by omega⟩
theorem getD_snoc_lt {ph : List Nat} {k m : Nat} (h : m < ph.length) : (ph ++ [k]).getD m 0 = ph.getD m 0 := by
  simp [List.getD, List.getElem?_append_left h]
theorem getD_snoc_eq {ph : List Nat} {k : Nat} : (ph ++ [k]).getD ph.length 0 = k := by simp [List.getD]
theorem tmAt_mk {R : List Tm} {t : Tm} {m : Nat} (h1 : 1 ≤ m) (h2 : m ≤ R.length) : tmAt (mkL R t) m = tmAt R m := by
  obtain ⟨r, e⟩ := mkL_prefix R t
  rw [e]
  simp [tmAt, List.getD, List.getElem?_append_left (show m - 1 < R.length by omega)]
theorem may_map {N M : Nat} {t : Tm} {ph : List Nat} (h : may N t = true) (h0 : ph.getD 0 0 = 0) (hr : ∀ m, 1 ≤ m → m ≤ N → 1 ≤ ph.getD m 0 ∧ ph.getD m 0 ≤ M) : may M (mapT ph t) = true := by
  have th : ∀ x, thr N x = true → thr M ((ph.getD x.toNat 0 : Nat) : Int) = true := fun x hx => by
    have := thr_iff.1 hx
    have := hr x.toNat (by omega) (by omega)
    exact thr_iff.2 (by omega)
  have z : ∀ x : Int, x = 0 → ((ph.getD x.toNat 0 : Nat) : Int) = 0 := fun x hx => by subst hx; simpa using h0
  obtain ⟨k, n, a, b⟩ := t
  unfold mapT
  unfold may at h ⊢
  dsimp only at h ⊢
  split at h
  · rename_i c1; rw [if_pos c1]; simp only [Bool.and_eq_true, decide_eq_true_eq] at h ⊢; exact ⟨⟨h.1.1, z _ h.1.2⟩, z _ h.2⟩
  · rename_i c1; rw [if_neg c1]
    split at h
    · rename_i c2; rw [if_pos c2]; simp only [Bool.and_eq_true, decide_eq_true_eq] at h ⊢; exact ⟨z _ h.1, z _ h.2⟩
    · rename_i c2; rw [if_neg c2]
      split at h
      · rename_i c3; rw [if_pos c3]; simp only [Bool.and_eq_true] at h ⊢; exact ⟨⟨h.1.1, th _ h.1.2⟩, th _ h.2⟩
      · rename_i c3; rw [if_neg c3]
        split at h
        · rename_i c4; rw [if_pos c4]; simp only [Bool.and_eq_true, Bool.or_eq_true, decide_eq_true_eq] at h ⊢; exact ⟨⟨h.1.1, th _ h.1.2⟩, h.2.imp (z _) (th _)⟩
        · rename_i c4; rw [if_neg c4]
          split at h
          · rename_i c5; rw [if_pos c5]; simp only [Bool.and_eq_true, decide_eq_true_eq] at h ⊢; exact ⟨⟨h.1.1, th _ h.1.2⟩, z _ h.2⟩
          · cases h
/-- One term more. -/
theorem Acr.step {L : List Tm} {i : Nat} {R : List Tm} {ph : List Nat} (h : Acr L i R ph) (hG : Good L) (hi : i < L.length) (hl : R.length < 1048576) :
    mkE R (mapT ph (tmAt L (i + 1))) = 0 ∧ Acr L (i + 1) (mkL R (mapT ph (tmAt L (i + 1)))) (ph ++ [mkN R (mapT ph (tmAt L (i + 1)))]) := by
  have ht : L[i]? = some (tmAt L (i + 1)) := by simp [tmAt, List.getD, List.getElem?_eq_getElem hi]
  have hm := may_map (hG.may i _ ht) h.zero h.rng
  obtain ⟨e1, e2, e3⟩ := mk_ok hm hl
  have hle := mkL_le R (mapT ph (tmAt L (i + 1)))
  have hp := hG.parts (m := i + 1) (by omega) (by omega)
  have hlen := h.len
  have keep : ∀ m, 1 ≤ m → m ≤ i + 1 → mapT (ph ++ [mkN R (mapT ph (tmAt L (i + 1)))]) (tmAt L m) = mapT ph (tmAt L m) := fun m h1 h2 => by
    have hq := hG.parts (m := m) h1 (by omega)
    unfold pA pB at hq
    unfold mapT
    rw [getD_snoc_lt (by omega), getD_snoc_lt (by omega)]
  have q1 := num_get e3
  have q2 := num_le (mkL R (mapT ph (tmAt L (i + 1)))) (mapT ph (tmAt L (i + 1)))
  rw [← e2] at q1 q2
  refine ⟨e1, ⟨h.good.made _, by simp [h.len], by rw [getD_snoc_lt (by omega)]; exact h.zero, fun m h1 h2 => ?_, fun m h1 h2 => ?_⟩⟩
  · by_cases c : m = i + 1
    · subst c
      have e := getD_snoc_eq (ph := ph) (k := mkN R (mapT ph (tmAt L (i + 1))))
      rw [h.len] at e
      rw [e]; omega
    · rw [getD_snoc_lt (by omega)]
      have := h.rng m h1 (by omega)
      omega
  · rw [keep m h1 h2]
    by_cases c : m = i + 1
    · subst c
      have e := getD_snoc_eq (ph := ph) (k := mkN R (mapT ph (tmAt L (i + 1))))
      rw [h.len] at e
      rw [e]
      have : tmAt (mkL R (mapT ph (tmAt L (i + 1)))) (mkN R (mapT ph (tmAt L (i + 1)))) = mapT ph (tmAt L (i + 1)) := by
        generalize mapT ph (tmAt L (i + 1)) = u at *
        simp [tmAt, List.getD, q1.1]
      exact this
    · rw [getD_snoc_lt (by omega)]
      have hr := h.rng m h1 (by omega)
      rw [tmAt_mk hr.1 hr.2]
      exact h.at_ m h1 (by omega)
theorem Acr.maps {L R : List Tm} {ph : List Nat} (h : Acr L L.length R ph) (hG : Good L) : Maps L R (fun m => ph.getD m 0) := by
  have parts : ∀ m, 1 ≤ m → m ≤ L.length → (tmAt R (ph.getD m 0)).kd = (tmAt L m).kd ∧ (tmAt R (ph.getD m 0)).n = (tmAt L m).n ∧ pA R (ph.getD m 0) = ph.getD (pA L m) 0 ∧ pB R (ph.getD m 0) = ph.getD (pB L m) 0 := fun m h1 h2 => by
    have e := h.at_ m h1 h2
    unfold pA pB
    rw [e]
    simp only [mapT, Int.toNat_natCast, and_self]
  refine ⟨h.zero, h.rng, ?_, parts⟩
  intro m
  induction m using Nat.strongRecOn with
  | _ m ih =>
    intro k hm hk e
    by_cases m0 : m = 0
    · subst m0
      by_cases k0 : k = 0
      · exact k0.symm
      · have := (h.rng k (by omega) hk).1
        have e' : ph.getD 0 0 = ph.getD k 0 := e
        rw [h.zero] at e'; omega
    · by_cases k0 : k = 0
      · subst k0
        have := (h.rng m (by omega) hm).1
        have e' : ph.getD m 0 = ph.getD 0 0 := e
        rw [h.zero] at e'; omega
      · obtain ⟨a1, a2, a3, a4⟩ := parts m (by omega) hm
        obtain ⟨b1, b2, b3, b4⟩ := parts k (by omega) hk
        have e' : ph.getD m 0 = ph.getD k 0 := e
        rw [e'] at a1 a2 a3 a4
        obtain ⟨p1, p2⟩ := hG.parts (m := m) (by omega) hm
        obtain ⟨q1, q2⟩ := hG.parts (m := k) (by omega) hk
        have eA := ih (pA L m) p1 (pA L k) (by omega) (by omega) (by show ph.getD _ 0 = ph.getD _ 0; rw [← a3, ← b3])
        have eB := ih (pB L m) p2 (pB L k) (by omega) (by omega) (by show ph.getD _ 0 = ph.getD _ 0; rw [← a4, ← b4])
        apply hG.tmAt_inj (by omega) hm (by omega) hk
        obtain ⟨s1, s2⟩ := hG.tmAt_parts (m := m) (by omega) hm
        obtain ⟨t1, t2⟩ := hG.tmAt_parts (m := k) (by omega) hk
        rw [a1] at b1
        rw [a2] at b2
        cases hx : tmAt L m with
        | mk x1 x2 x3 x4 =>
          cases hy : tmAt L k with
          | mk y1 y2 y3 y4 =>
            rw [hx] at s1 s2 b1 b2
            rw [hy] at t1 t2 b1 b2
            simp only at s1 s2 t1 t2 b1 b2
            rw [s1, s2, t1, t2, eA, eB, b1, b2]

end Go.Proofs.Ytokdflbajnecpaa.Tn
