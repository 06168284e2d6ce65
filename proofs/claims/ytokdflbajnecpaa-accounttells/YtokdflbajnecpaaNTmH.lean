/- Contracts of SameTerms and of lives, the end of every law of layer 3. -/
import Derived.Test.YtokdflbajnecpaaNTmG
namespace Go.Proofs.Ytokdflbajnecpaa.Tn
open Go.RowKit Go.Maps

/-- Where two terms part. -/
theorem tm_ne {t u : Tm} (h : t ≠ u) : t.kd ≠ u.kd ∨ (t.kd = u.kd ∧ t.n ≠ u.n) ∨ (t.kd = u.kd ∧ t.n = u.n ∧ t.a ≠ u.a) ∨ (t.kd = u.kd ∧ t.n = u.n ∧ t.a = u.a ∧ t.b ≠ u.b) := by
  obtain ⟨k, n, a, b⟩ := t
  obtain ⟨k', n', a', b'⟩ := u
  simp only [ne_eq, Tm.mk.injEq, not_and] at h ⊢
  by_cases h1 : k = k'
  · by_cases h2 : n = n'
    · by_cases h3 : a = a'
      · exact Or.inr (Or.inr (Or.inr ⟨h1, h2, h3, h h1 h2 h3⟩))
      · exact Or.inr (Or.inr (Or.inl ⟨h1, h2, h3⟩))
    · exact Or.inr (Or.inl ⟨h1, h2⟩)
  · exact Or.inl h1

end Go.Proofs.Ytokdflbajnecpaa.Tn
