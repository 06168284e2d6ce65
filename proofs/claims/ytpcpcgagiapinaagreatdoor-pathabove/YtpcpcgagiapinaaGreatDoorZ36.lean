/- Texts joined: NTmFrame NTmFrameN. -/
import Derived.Test.YtpcpcgagiapinaaGreatDoorRows
import Derived.Test.YtpcpcgagiapinaaGreatDoorZ16
import Derived.ProofKit
import Derived.OpenShut
import Derived.ShutString
import Derived.ChangeOld
import Derived.Lib.SmallJoins
import Derived.Deep.Slices
import Derived.Deep.Strs
import Derived.SizedLaws
/- Closed facts of the program that every law's row of layer 3 asks, and lists of terms that came in: what their reading says of memory. -/
namespace Go.Proofs.YtpcpcgagiapinaaGreatDoor.Tn
open Go.ChangeShapes Go.WideShapes Go.ChangeAt Go.RowKit Go.Joins Go.Deep
theorem own : ownKnob Tryz.prog.godebug = none := by kernel_rfl
theorem laidOut : laidOutB Tryz.prog = true := by kernel_rfl
theorem bounds64 {a : Int} (h : (Lit.int .i64 a).wf = true) : -9223372036854775808 ≤ a ∧ a ≤ 9223372036854775807 := by
  simpa [Lit.wf, IntKind.min, IntKind.max, IntKind.signed, IntKind.bits] using h
theorem bounds8 {a : Int} (h : (Lit.int .u8 a).wf = true) : 0 ≤ a ∧ a ≤ 255 := by
  simpa [Lit.wf, IntKind.min, IntKind.max, IntKind.signed, IntKind.bits] using h
theorem bytesTerm : Tryz.prog.bytesOf 64 = 32 := by kernel_rfl
set_option maxRecDepth 100000 in
theorem open_terms {H : Type} {enc : TypeId × Value → H} {W : World} {spare : Nat → Bool} {held : Bool} {a : Option Addr} {len cap : Nat} {d : DataW H} {p : List MemPlace}
    (h : DataW.Trod enc Tryz.prog W 0 spare held 22 (.slice a len cap) d p) (hsz : ∀ n ∈ d.weights Tryz.prog 22, n ≤ reachBytes) : ∃ l, l.length = len ∧ Tms W (.slice a len cap) l ∧ ∀ t ∈ l, t.ok := by
  obtain ⟨fuel, hf⟩ := h
  rcases open_slice Tryz.underlying22 hf with ⟨hcs, _⟩ | ⟨x, l, c, m, n, D, Pl, hcs, _, hl, hm, hmm, hx, hel⟩
  · simp [Value.cells] at hcs
    obtain ⟨rfl, rfl, rfl⟩ := hcs
    exact ⟨[], rfl, ⟨none, 0, rfl, by simp, Or.inl rfl⟩, by simp⟩
  · simp [Value.cells] at hcs
    obtain ⟨rfl, rfl, rfl⟩ := hcs
    simp only [Prod.mk.injEq] at hx
    obtain ⟨hd, _⟩ := hx
    have hlm : len ≤ m := by rw [hmm]; split <;> omega
    have each : ∀ i, i < len → ∃ y : Tm, y.ok ∧ W.cell? (x.add (i * 4)) = some (.int .u8 y.kd) ∧ W.cell? (x.add (i * 4 + 1)) = some (.int .i64 y.n) ∧ W.cell? (x.add (i * 4 + 2)) = some (.int .i64 y.a) ∧ W.cell? (x.add (i * 4 + 3)) = some (.int .i64 y.b) := by
      intro i hi
      obtain ⟨cs, h1, h2⟩ := hel i (by omega)
      rw [Tryz.cellsTerm] at h1
      obtain ⟨_, hlen, hcell⟩ := World.cells?_some h1
      obtain ⟨y0, y1, y2, y3, n', hxy, _, g0, g1, g2, g3⟩ := trod_struct4 Tryz.underlying64 h2
      match cs, hlen with
      | [v0, v1, v2, v3], _ =>
        have i0 : Tryz.prog.cellsOf 62 = 1 := by kernel_rfl
        have i1 : Tryz.prog.cellsOf 2 = 1 := by kernel_rfl
        have i2 : Tryz.prog.cellsOf 3 = 1 := by kernel_rfl
        simp [i0, i1, i2] at g0 g1 g2 g3
        obtain ⟨q0, e0, _, w0⟩ := DataW.trod_int Tryz.underlying62 g0
        obtain ⟨q1, e1, _, w1⟩ := DataW.trod_int Tryz.underlying2 g1
        obtain ⟨q2, e2, _, w2⟩ := DataW.trod_int Tryz.underlying3 g2
        obtain ⟨q3, e3, _, w3⟩ := DataW.trod_int Tryz.underlying3 g3
        simp at e0 e1 e2 e3
        subst e0 e1 e2 e3
        have c0 := hcell 0 (by omega)
        have c1 := hcell 1 (by omega)
        have c2 := hcell 2 (by omega)
        have c3 := hcell 3 (by omega)
        rw [add_add] at c0 c1 c2 c3
        exact ⟨⟨q0, q1, q2, q3⟩, ⟨(bounds8 w0).1, (bounds8 w0).2, (bounds64 w1).1, (bounds64 w1).2, (bounds64 w2).1, (bounds64 w2).2, (bounds64 w3).1, (bounds64 w3).2⟩, by simpa using c0, by simpa using c1, by simpa using c2, by simpa using c3⟩
    have hlen : len ≤ 140737488355328 := by
      have := hsz ((len + (m - len)) * 32) (by
        rw [hd]; simp [DataW.weights, Tryz.underlying22, bytesTerm])
      have hr := reachBytes_lt
      simp at hr; omega
    obtain ⟨f, hfx⟩ := @choose_lt Tm ⟨⟨0, 0, 0, 0⟩⟩ len _ each
    refine ⟨(List.range len).map f, by simp, ⟨some x, cap, by simp, by simpa using hlen, ?_⟩, ?_⟩
    · rcases Nat.eq_zero_or_pos len with h0 | h0
      · subst h0; exact Or.inl rfl
      · obtain ⟨b, off, spot⟩ := x
        have k0 := (hfx 0 h0).2.1
        have hspot : spot = none := by simpa [Addr.add] using World.cell?_spot k0
        subst hspot
        refine Or.inr ⟨b, off, rfl, fun i y hy => ?_⟩
        have hi : i < len := by
          rcases Nat.lt_or_ge i len with q | q
          · exact q
          · simp [q] at hy
        simp [hi] at hy
        subst hy
        obtain ⟨_, k0, k1, k2, k3⟩ := hfx i hi
        have ea : ∀ j, (⟨b, off, none⟩ : Addr).add j = ⟨b, off + j, none⟩ := fun j => by
          unfold Addr.add; by_cases hj : j = 0 <;> simp [hj]
        rw [ea] at k0 k1 k2 k3
        exact ⟨k0, by rw [Nat.add_assoc]; exact k1, by rw [Nat.add_assoc]; exact k2, by rw [Nat.add_assoc]; exact k3⟩
    · intro y hy
      obtain ⟨i, hi, rfl⟩ := List.mem_map.1 hy
      exact (hfx i (List.mem_range.1 hi)).1
end Go.Proofs.YtpcpcgagiapinaaGreatDoor.Tn

/- Slices of numbers, opened off what a caller hands in. -/
namespace Go.Proofs.YtpcpcgagiapinaaGreatDoor.Tn
open Go.ChangeShapes Go.WideShapes Go.ChangeAt Go.RowKit Go.Joins Go.Deep
end Go.Proofs.YtpcpcgagiapinaaGreatDoor.Tn
