/- Texts joined: TrL TrM TrN TrO. -/
import Derived.Test.YtdnfonhodbhcmaaGreatDoorZ08
import Derived.Deep.CutRange
/- The contract of Add. -/
namespace Go.Proofs.YtdnfonhodbhcmaaGreatDoor
open Go.RowKit Go.Maps

def addR (T : List Nd) (m e p : Int) : List Nd := if addE T m e p = 0 then addT T m e p else []
def addA (T : List Nd) (m e p : Int) : Nat := if addE T m e p = 0 then fb T else 0
end Go.Proofs.YtdnfonhodbhcmaaGreatDoor

/- The contract of Add, whatever comes of it; of New. -/
namespace Go.Proofs.YtdnfonhodbhcmaaGreatDoor
open Go.RowKit Go.Maps

theorem trd_nil (w : World) : Trd w (.slice none 0 0) [] := ⟨by simp, by simp, Or.inl ⟨rfl, none, 0, rfl⟩⟩
end Go.Proofs.YtdnfonhodbhcmaaGreatDoor

/- The contract of Remove. -/
namespace Go.Proofs.YtdnfonhodbhcmaaGreatDoor
open Go.RowKit Go.Maps

theorem fit_self {T : List Nd} {m : Nat} (h : T.length = m) : fit m T = T := by
  rw [fit_eq, ← h]; simp
theorem needF_sizes (T : List Nd) : ∀ (f n : Nat), n ∈ sizes → needF f T n ∈ sizes ∧ needF f T n ≤ n := by
  intro f
  induction f with
  | zero => intro n hn; exact ⟨hn, Nat.le_refl _⟩
  | succ f ih =>
    intro n hn
    unfold needF
    split
    · rename_i hc
      have h2 : n / 2 ∈ sizes := by simp [sizes] at hn ⊢; omega
      have := ih (n / 2) h2
      exact ⟨this.1, by omega⟩
    · exact ⟨hn, Nat.le_refl _⟩
def remR (T : List Nd) (m : Int) : List Nd := if remE T m = 0 then remT T m else []
theorem fnd_range {T : List Nd} {m : Int} (h : ¬ fnd T m < 0) : ∃ i : Nat, fnd T m = i ∧ i < nlv T ∧ hit m (ndAt T (2 * i)) = true := by
  unfold fnd at *
  split at h
  · rename_i hlt
    refine ⟨_, by rw [if_pos hlt], hlt, ?_⟩
    have := List.findIdx_getElem (p := hit m) (xs := lvs T) (w := by rw [lvs_len]; exact hlt)
    simpa [lvs] using this
  · omega
end Go.Proofs.YtdnfonhodbhcmaaGreatDoor

/- The contract of Remove, whatever comes of it; of New. -/
namespace Go.Proofs.YtdnfonhodbhcmaaGreatDoor
open Go.RowKit Go.Maps

end Go.Proofs.YtdnfonhodbhcmaaGreatDoor
