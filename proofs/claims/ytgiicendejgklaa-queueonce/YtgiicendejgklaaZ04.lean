/- Texts joined: PoFr0 PoFr1. -/
import Derived.Test.YtgiicendejgklaaRows
import Derived.Test.YtgiicendejgklaaZ03
import Derived.ProofKit
import Derived.OpenShut
import Derived.Lib.SmallJoins
import Derived.ChangeOld
import Derived.Deep.Slices
import Derived.SizedLaws
/- What the rows of layer 15 share. -/
namespace Go.Proofs.Ytgiicendejgklaa
open Go.ChangeShapes Go.WideShapes Go.ChangeAt Go.RowKit Go.Joins Go.Deep
theorem own : ownKnob Try.prog.godebug = none := by kernel_rfl
theorem laidOut : laidOutB Try.prog = true := by kernel_rfl
theorem bytesI : Try.prog.bytesOf 3 = 8 := by kernel_rfl
theorem cellsI : Try.prog.cellsOf 3 = 1 := by kernel_rfl
theorem open_numsT {H : Type} {enc : TypeId × Value → H} {W : World} {spare : Nat → Bool} {held : Bool} {fuel : Nat} {x : Value} {y : DataW H × List MemPlace}
    (h : DataW.trod enc Try.prog W 0 spare held fuel 25 [x] = some y) (hsz : ∀ n ∈ y.1.weights Try.prog 25, n ≤ reachBytes) : ∃ l, Nums W x l ∧ l.length ≤ 140737488355328 := by
  rcases open_ints Try.underlying25 Try.underlying3 cellsI h with ⟨hcs, _⟩ | ⟨a, len, cap, zs, hcs, _, hl, hm, hzl, hx, hc, _⟩
  · simp at hcs; exact ⟨[], Or.inl ⟨rfl, none, 0, hcs, fun _ => rfl⟩, by simp⟩
  · simp at hcs
    subst hcs
    have hzlen : len ≤ zs.length := by rw [hzl]; split <;> omega
    have hlen : len ≤ 140737488355328 := by
      have := hsz ((len + (zs.length - len)) * 8) (by rw [hx]; simp [DataW.weights, Try.underlying25, bytesI, lits, hzlen])
      have hr := reachBytes_lt
      simp at hr; omega
    refine ⟨zs.take len, ?_, by simp; omega⟩
    have htl : (zs.take len).length = len := by simp; omega
    rcases Nat.eq_zero_or_pos len with h0 | h0
    · subst h0
      exact Or.inl ⟨by simp, some a, cap, rfl, fun h => by cases h⟩
    · obtain ⟨b, off, spot⟩ := a
      have k0 := hc 0 (by omega)
      have hspot : spot = none := by simpa [Addr.add] using World.cell?_spot k0
      subst hspot
      refine Or.inr ⟨b, off, cap, by rw [htl], by rw [htl]; exact hl, hm, fun j z hj => ?_⟩
      have hjl : j < len := by have := (List.getElem?_eq_some_iff.1 hj).1; omega
      have hcj := hc j (by omega)
      have ea : (⟨b, off, none⟩ : Addr).add j = ⟨b, off + j, none⟩ := by unfold Addr.add; by_cases q : j = 0 <;> simp [q]
      rw [ea] at hcj
      rw [List.getElem?_take_of_lt hjl] at hj
      rw [hcj, List.getD_eq_getElem?_getD, hj]; rfl
end Go.Proofs.Ytgiicendejgklaa

/- Trees, rows of structs of numbers, commits and logs, opened off what a caller hands in. -/
namespace Go.Proofs.Ytgiicendejgklaa
open Go.ChangeShapes Go.WideShapes Go.ChangeAt Go.RowKit Go.Joins Go.Deep Go.Maps
end Go.Proofs.Ytgiicendejgklaa
