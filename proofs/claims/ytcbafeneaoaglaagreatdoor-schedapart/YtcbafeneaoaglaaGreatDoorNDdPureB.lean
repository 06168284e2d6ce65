/- What follows, of pairs and lists; of what is known already; of what is sealed with a key that is new. Nothing here speaks of the program. -/
import Derived.Test.YtcbafeneaoaglaaGreatDoorNDdF
import Derived.Test.YtcbafeneaoaglaaGreatDoorNTmOnce
namespace Go.Proofs.YtcbafeneaoaglaaGreatDoor.Tn

theorem pair_fol {L : List Tm} {K : Nat → Prop} {m : Nat} (h1 : 1 ≤ m) (h2 : m ≤ L.length) (hk : kdOf L m = 3) : Fol L K m ↔ Fol L K (pA L m) ∧ Fol L K (pB L m) := by
  constructor
  · exact fun h => ⟨.pairA h hk, .pairB h hk⟩
  · rintro ⟨a, b⟩
    exact .make h1 h2 (by rw [hk]; decide) (fun _ => a) (fun _ => b)
theorem mkL_ext (L : List Tm) (t : Tm) : ∃ q, mkL L t = L ++ q := mkL_prefix L t
theorem getT_at {L : List Tm} {x : Int} {t : Tm} (h : thr L.length x = true) (e : getT L x = t) : tmAt L x.toNat = t := by
  unfold getT at e; rw [if_pos h] at e; exact e
theorem lsF_fol : ∀ (r : List Int) (L : List Tm) (n : Int), Good L → L.length + r.length ≤ 10000 → (∀ a ∈ r, thr L.length a = true) → thr L.length n = true → ∀ L' m, lsF L r n = (L', m, 0) →
    (∃ q, L' = L ++ q) ∧ Good L' ∧ thr L'.length m = true ∧ ∀ K, (Fol L' K m.toNat ↔ Fol L' K n.toNat ∧ ∀ a ∈ r, Fol L' K a.toNat) := by
  intro r
  induction r with
  | nil =>
    intro L n hG _ _ hn L' m e
    simp only [lsF, Prod.mk.injEq] at e
    obtain ⟨rfl, rfl, _⟩ := e
    exact ⟨⟨[], by simp⟩, hG, hn, fun K => by simp⟩
  | cons a r ih =>
    intro L n hG hl hr hn L' m e
    have ha := hr a (by simp)
    have hm : may L.length ⟨3, 0, a, n⟩ = true := by simp [may, ha, hn]
    obtain ⟨_, _, _, q⟩ := mk_again hG ⟨3, 0, a, n⟩ (by simp at hl; omega)
    rcases q with ⟨_, e0, t1, t2, _, _⟩ | ⟨e0, _⟩
    · simp only [lsF, e0, if_true] at e
      have hle := mkL_le L ⟨3, 0, a, n⟩
      have hle2 := mkL_len L ⟨3, 0, a, n⟩
      obtain ⟨⟨q1, i1⟩, i2, i3, i4⟩ := ih (mkL L ⟨3, 0, a, n⟩) _ (hG.made _) (by simp at hl; omega) (fun x hx => thr_mono (hr x (List.mem_cons_of_mem _ hx)) hle) t1 L' m e
      obtain ⟨q0, e1⟩ := mkL_ext L ⟨3, 0, a, n⟩
      refine ⟨⟨q0 ++ q1, by rw [i1, e1, List.append_assoc]⟩, i2, i3, fun K => ?_⟩
      have hat : tmAt (mkL L ⟨3, 0, a, n⟩) (mkN L ⟨3, 0, a, n⟩) = ⟨3, 0, a, n⟩ := by have := getT_at t1 t2; simpa using this
      have hrg := thr_iff.1 t1
      have hat' : tmAt L' (mkN L ⟨3, 0, a, n⟩) = ⟨3, 0, a, n⟩ := by rw [i1, tmAt_ext q1 (by omega) (by omega)]; exact hat
      have hlen' : (mkL L ⟨3, 0, a, n⟩).length ≤ L'.length := by rw [i1]; simp
      have hp := pair_fol (L := L') (K := K) (m := mkN L ⟨3, 0, a, n⟩) (by omega) (by omega) (by unfold kdOf; rw [hat'])
      have ea : pA L' (mkN L ⟨3, 0, a, n⟩) = a.toNat := by unfold pA; rw [hat']
      have eb : pB L' (mkN L ⟨3, 0, a, n⟩) = n.toNat := by unfold pB; rw [hat']
      rw [ea, eb] at hp
      rw [i4 K, Int.toNat_natCast, hp]
      constructor
      · rintro ⟨⟨x, y⟩, z⟩
        refine ⟨y, fun c hc => ?_⟩
        rcases List.mem_cons.1 hc with rfl | hc
        · exact x
        · exact z c hc
      · rintro ⟨y, z⟩
        exact ⟨⟨z a (by simp), y⟩, fun c hc => z c (List.mem_cons_of_mem _ hc)⟩
    · simp only [lsF, e0] at e
      simp at e
theorem ls_fol {L : List Tm} {l : List Int} (hG : Good L) (hl : L.length + l.length ≤ 10000) {L' : List Tm} {n : Int} (e : ls L l = (L', n, 0)) (hn : n ≠ 0) :
    (∃ q, L' = L ++ q) ∧ Good L' ∧ (∀ x ∈ l, thr L'.length x = true) ∧ ∀ K, (hasB L' K n = l.all (hasB L' K)) := by
  unfold ls at e
  by_cases c : l.all (thr L.length) = true
  · rw [if_pos c] at e
    have hall := List.all_eq_true.1 c
    cases hrv : l.reverse with
    | nil => rw [hrv] at e; simp only [Prod.mk.injEq] at e; exact absurd e.2.1.symm hn
    | cons x r =>
      rw [hrv] at e
      simp only at e
      have hmem : ∀ y, y ∈ l ↔ y = x ∨ y ∈ r := fun y => by rw [← List.mem_reverse, hrv, List.mem_cons]
      have hlen : l.length = r.length + 1 := by rw [← List.length_reverse, hrv]; simp
      obtain ⟨i1, i2, i3, i4⟩ := lsF_fol r L x hG (by omega) (fun a ha => hall a ((hmem a).2 (Or.inr ha))) (hall x ((hmem x).2 (Or.inl rfl))) L' n e
      obtain ⟨q, hq⟩ := i1
      have hin : ∀ y ∈ l, thr L'.length y = true := fun y hy => thr_mono (hall y hy) (by rw [hq]; simp)
      refine ⟨⟨q, hq⟩, i2, hin, fun K => ?_⟩
      rw [Bool.eq_iff_iff, hasB_iff, List.all_eq_true, i4 K]
      have := thr_iff.1 i3
      constructor
      · rintro ⟨_, h2, h3⟩ y hy
        have := thr_iff.1 (hin y hy)
        refine hasB_iff.2 ⟨by omega, ?_⟩
        rcases (hmem y).1 hy with rfl | hy
        · exact h2
        · exact h3 y hy
      · intro h
        exact ⟨by omega, (hasB_iff.1 (h x ((hmem x).2 (Or.inl rfl)))).2, fun a ha => (hasB_iff.1 (h a ((hmem a).2 (Or.inr ha)))).2⟩
  · rw [if_neg c] at e
    simp at e

theorem hasB_sub {L : List Tm} {K K' : Nat → Prop} (hG : Good L) (h : ∀ m, 1 ≤ m → m ≤ L.length → K m → Fol L K' m) {x : Int} (hx : hasB L K x = true) : hasB L K' x = true := by
  obtain ⟨a, b⟩ := hasB_iff.1 hx
  exact hasB_iff.2 ⟨a, b.mono hG h⟩
theorem hasB_eq {L : List Tm} {K K' : Nat → Prop} (hG : Good L) (h : ∀ m, 1 ≤ m → m ≤ L.length → K m → Fol L K' m) (h' : ∀ m, 1 ≤ m → m ≤ L.length → K' m → Fol L K m) (x : Int) : hasB L K x = hasB L K' x := by
  rw [Bool.eq_iff_iff]; exact ⟨hasB_sub hG h, hasB_sub hG h'⟩

end Go.Proofs.YtcbafeneaoaglaaGreatDoor.Tn
