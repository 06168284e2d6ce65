/- Texts joined: NTmFrame NTmFrameN. -/
import Derived.Test.YtokdflbajnecpaaRows
import Derived.Test.YtokdflbajnecpaaZ03
import Derived.ProofKit
import Derived.OpenShut
import Derived.ShutString
import Derived.ChangeOld
import Derived.Lib.SmallJoins
import Derived.Deep.Slices
import Derived.Deep.Strs
import Derived.SizedLaws
/- Closed facts of the program that every law's row of layer 3 asks, and lists of terms that came in: what their reading says of memory. -/
namespace Go.Proofs.Ytokdflbajnecpaa.Tn
open Go.ChangeShapes Go.WideShapes Go.ChangeAt Go.RowKit Go.Joins Go.Deep
theorem own : ownKnob Try.prog.godebug = none := by kernel_rfl
theorem laidOut : laidOutB Try.prog = true := by kernel_rfl
theorem bounds64 {a : Int} (h : (Lit.int .i64 a).wf = true) : -9223372036854775808 ≤ a ∧ a ≤ 9223372036854775807 := by
  simpa [Lit.wf, IntKind.min, IntKind.max, IntKind.signed, IntKind.bits] using h
theorem bytesInt : Try.prog.bytesOf 3 = 8 := by kernel_rfl
end Go.Proofs.Ytokdflbajnecpaa.Tn

/- Slices of numbers, opened off what a caller hands in. -/
namespace Go.Proofs.Ytokdflbajnecpaa.Tn
open Go.ChangeShapes Go.WideShapes Go.ChangeAt Go.RowKit Go.Joins Go.Deep
theorem cells_E_int : Try.prog.cellsOf 3 = 1 := by kernel_rfl
set_option maxRecDepth 100000 in
theorem open_nums {H : Type} {enc : TypeId × Value → H} {W : World} {spare : Nat → Bool} {held : Bool} {a : Option Addr} {len cap : Nat} {d : DataW H} {p : List MemPlace}
    (h : DataW.Trod enc Try.prog W 0 spare held 24 (.slice a len cap) d p) (hsz : ∀ n ∈ d.weights Try.prog 24, n ≤ reachBytes) : ∃ l, l.length = len ∧ NIs W (.slice a len cap) l := by
  obtain ⟨fuel, hf⟩ := h
  rcases open_slice Try.underlying24 hf with ⟨hcs, _⟩ | ⟨x, l, c, m, n, D, Pl, hcs, _, hl, hm, hmm, hx, hel⟩
  · simp [Value.cells] at hcs
    obtain ⟨rfl, rfl, rfl⟩ := hcs
    exact ⟨[], rfl, ⟨none, 0, rfl, by simp, by simp, Or.inl rfl⟩⟩
  · simp [Value.cells] at hcs
    obtain ⟨rfl, rfl, rfl⟩ := hcs
    simp only [Prod.mk.injEq] at hx
    obtain ⟨hd, _⟩ := hx
    have hlm : len ≤ m := by rw [hmm]; split <;> omega
    have each : ∀ i, i < len → ∃ y : Int, (-9223372036854775808 ≤ y ∧ y ≤ 9223372036854775807) ∧ W.cell? (x.add i) = some (.int .i64 y) := by
      intro i hi
      obtain ⟨cs, h1, h2⟩ := hel i (by omega)
      rw [cells_E_int, Nat.mul_one] at h1
      obtain ⟨_, hlen, hcell⟩ := World.cells?_some h1
      obtain ⟨q, e, _, wq⟩ := DataW.trod_int Try.underlying3 h2
      have c0 := hcell 0 (by omega)
      rw [e] at c0
      simp [Addr.add] at c0
      exact ⟨q, bounds64 wq, by simpa [Addr.add] using c0⟩
    have hlen : len ≤ 140737488355328 := by
      have := hsz ((len + (m - len)) * 8) (by
        rw [hd]; simp [DataW.weights, Try.underlying24, bytesInt])
      have hr := reachBytes_lt
      simp at hr; omega
    obtain ⟨f, hfx⟩ := @choose_lt Int ⟨0⟩ len _ each
    refine ⟨(List.range len).map f, by simp, ⟨some x, cap, by simp, by simpa using hlen, ?_, ?_⟩⟩
    · intro y hy
      obtain ⟨i, hi, rfl⟩ := List.mem_map.1 hy
      exact (hfx i (List.mem_range.1 hi)).1
    · rcases Nat.eq_zero_or_pos len with h0 | h0
      · subst h0; exact Or.inl rfl
      · obtain ⟨b, off, spot⟩ := x
        have k0 := (hfx 0 h0).2
        have hspot : spot = none := by simpa [Addr.add] using World.cell?_spot k0
        subst hspot
        refine Or.inr ⟨b, off, rfl, fun i y hy => ?_⟩
        have hi : i < len := by
          rcases Nat.lt_or_ge i len with q | q
          · exact q
          · simp [q] at hy
        simp [hi] at hy
        subst hy
        have k1 := (hfx i hi).2
        have ea : ∀ j, (⟨b, off, none⟩ : Addr).add j = ⟨b, off + j, none⟩ := fun j => by
          unfold Addr.add; by_cases hj : j = 0 <;> simp [hj]
        rw [ea] at k1
        exact k1
end Go.Proofs.Ytokdflbajnecpaa.Tn
