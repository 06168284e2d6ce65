/- Contracts of untold and Dag of package term. -/
import Derived.Test.YtkaioidneknmjaaNTmB
namespace Go.Proofs.Ytkaioidneknmjaa.Tn
open Go.RowKit Go.Maps

theorem PMap.look {w : World} {b : Nat} {o : List Nat} (h : PMap w b o) {k : Nat} (hk : k ≤ 1048576) : (Instr.lookup 69 (.map (some b)) (.int .i64 (k : Int)) false).run Try.prog w = .ok (.int .i64 (pos o k : Nat)) w := by
  obtain ⟨D, hD, hv⟩ := h
  obtain ⟨c, hr, hc, _⟩ := hD.lookup_int lawInt Try.underlying69 Try.underlying3 (zeroInt w) (keyOf_int_mk Try.underlying3 (wf_i64 (x := (k : Int)) (by omega) (by omega)))
  rw [hv k hk] at hc
  simp only [DataW.lit.injEq, Lit.int.injEq, true_and] at hc
  rw [hc]
  exact hr
theorem PMap.store {w : World} {b : Nat} {o : List Nat} (h : PMap w b o) {m : Nat} (hm : m ∉ o) (hk : m ≤ 1048576) (hl : o.length ≤ 1048576) : ∃ w', (Instr.mapUpdate 69 (.map (some b)) (.int .i64 (m : Int)) (.int .i64 ((o.length : Int) + 1))).run Try.prog w = .ok () w' ∧ PMap w' b (o ++ [m]) ∧ w.grownBy w' (some b) := by
  obtain ⟨D, hD, hv⟩ := h
  obtain ⟨w', hr, h1, h2⟩ := hD.update lawInt Try.underlying69 (by unfold maxLen; omega) (keyOf_int_mk Try.underlying3 (wf_i64 (x := (m : Int)) (by omega) (by omega))) (plainElem_int (a := ((o.length + 1 : Nat) : Int)) Try.underlying3 (wf_i64 (by omega) (by omega)))
  refine ⟨w', ?_, PMap.put hD hv hm h1, h2⟩
  have e : ((o.length + 1 : Nat) : Int) = (o.length : Int) + 1 := by omega
  rw [e] at hr
  exact hr

/-- The first part of a term that has no place yet, or 0. -/
def unt (o : List Nat) (a b : Nat) : Nat := if a ≠ 0 ∧ a ∉ o then a else if b ≠ 0 ∧ b ∉ o then b else 0
theorem pos_zero {o : List Nat} {k : Nat} : pos o k = 0 ↔ k ∉ o := by
  unfold pos; split <;> simp_all

theorem ret_i {k : IntKind} {a b : Int} (h : a = b) : Ending.returned (.int k a) = .returned (.int k b) := by rw [h]

end Go.Proofs.Ytkaioidneknmjaa.Tn
