/- The contract of Follows; what is known beside its store and other things; the chapter's example. -/
import Derived.Test.YtkaioidneknmjaaNDdG
import Derived.Test.YtkaioidneknmjaaNTmBuild
namespace Go.Proofs.Ytkaioidneknmjaa.Tn
open Go.RowKit Go.Maps

theorem thr_or (L : List Tm) (x : Int) : thr L.length x = true ∨ thr L.length x = false := by cases thr L.length x <;> simp

def chap : List Tm := [⟨1, 1, 0, 0⟩, ⟨5, 0, 1, 0⟩, ⟨1, 2, 0, 0⟩, ⟨6, 0, 2, 3⟩, ⟨1, 3, 0, 0⟩, ⟨6, 0, 3, 5⟩, ⟨3, 0, 4, 6⟩, ⟨7, 0, 5, 0⟩]
theorem chap_fill : fillL [] chap = chap := by decide +kernel
theorem chap_good : Good chap := by
  have h : ∀ l L, Good L → Good (fillL L l) := by
    intro l
    induction l with
    | nil => intro L h; exact h
    | cons t l ih => intro L h; exact ih _ (h.made t)
  have := h chap [] good_nil
  rw [chap_fill] at this
  exact this
theorem chap_yes : Fol chap (fun m => (m : Int) ∈ [7, 1]) 5 := by
  have k7 : Fol chap (fun m => (m : Int) ∈ [(7 : Int), 1]) 7 := .known (by decide) (by decide) (by decide)
  have k1 : Fol chap (fun m => (m : Int) ∈ [(7 : Int), 1]) 1 := .known (by decide) (by decide) (by decide)
  have k4 : Fol chap (fun m => (m : Int) ∈ [(7 : Int), 1]) 4 := .pairA k7 (by decide)
  have k6 : Fol chap (fun m => (m : Int) ∈ [(7 : Int), 1]) 6 := .pairB k7 (by decide)
  have k3 : Fol chap (fun m => (m : Int) ∈ [(7 : Int), 1]) 3 := .opens k4 (by decide) k1
  exact .opens k6 (by decide) k3
theorem chap_no : ¬ Fol chap (fun m => (m : Int) ∈ [7]) 5 := by
  intro h
  have rg : ∀ m, 1 ≤ m → m ≤ chap.length → m ∈ [1, 2, 3, 4, 5, 6, 7, 8] := by
    intro m h1 h2
    have : m ≤ 8 := h2
    simp; omega
  have hc : Clo chap (fun m => m ∈ [4, 6, 7]) := by
    refine ⟨fun m h1 h2 => ?_, fun m h1 h2 => ?_, fun m h1 h2 => ?_, fun m h1 h2 => ?_⟩
    · exact (by decide : ∀ m ∈ [1, 2, 3, 4, 5, 6, 7, 8], kdOf chap m ≠ 1 → (pA chap m ≠ 0 → pA chap m ∈ [4, 6, 7]) → (pB chap m ≠ 0 → pB chap m ∈ [4, 6, 7]) → m ∈ [4, 6, 7]) m (rg m h1 h2)
    · exact (by decide : ∀ m ∈ [1, 2, 3, 4, 5, 6, 7, 8], m ∈ [4, 6, 7] → kdOf chap m = 3 → pA chap m ∈ [4, 6, 7]) m (rg m h1 h2)
    · exact (by decide : ∀ m ∈ [1, 2, 3, 4, 5, 6, 7, 8], m ∈ [4, 6, 7] → kdOf chap m = 3 → pB chap m ∈ [4, 6, 7]) m (rg m h1 h2)
    · exact (by decide : ∀ m ∈ [1, 2, 3, 4, 5, 6, 7, 8], m ∈ [4, 6, 7] → kdOf chap m = 6 → opn chap m ∈ [4, 6, 7] → pB chap m ∈ [4, 6, 7]) m (rg m h1 h2)
  have := h.least chap_good hc (fun m h1 h2 hk => by simp at hk; simp; omega)
  revert this; decide
theorem chap_facts : newE chap [7, 1] = 0 ∧ newE chap [7] = 0 ∧ thr chap.length 5 = true ∧ hasB chap (fun m => (m : Int) ∈ [7, 1]) 5 = true ∧ hasB chap (fun m => (m : Int) ∈ [7]) 5 = false := by
  refine ⟨by decide, by decide, by decide, hasB_iff.2 ⟨by decide, chap_yes⟩, ?_⟩
  cases e : hasB chap (fun m => (m : Int) ∈ [7]) 5
  · rfl
  · exact absurd (hasB_iff.1 e).2 chap_no

end Go.Proofs.Ytkaioidneknmjaa.Tn
