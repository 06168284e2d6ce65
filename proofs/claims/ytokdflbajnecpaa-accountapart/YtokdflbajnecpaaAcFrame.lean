/- Those who come in, and what a seed is of, opened off what a caller hands in. -/
import Derived.Test.YtokdflbajnecpaaZ04
import Derived.Test.YtokdflbajnecpaaZ09
namespace Go.Proofs.Ytokdflbajnecpaa.Tn.Ax
open Go.ChangeShapes Go.WideShapes Go.ChangeAt Go.RowKit Go.Joins Go.Deep
set_option maxRecDepth 100000 in
theorem open_commit {H : Type} {enc : TypeId × Value → H} {W : World} {spare : Nat → Bool} {held : Bool} {r : Reach} {b0 : Nat} {v : Value} {d : DataW H} {p : List MemPlace}
    (hval : Value.okWide Try.prog W r b0 52 v) (h : DataW.Trod enc Try.prog W 0 spare held 52 v d p) (hsz : ∀ n ∈ d.weights Try.prog 52, n ≤ reachBytes) :
    ∃ g e q : Int, i64r g ∧ i64r e ∧ i64r q ∧ ∃ a cap l, v = .agg #[.int .i64 g, .int .i64 e, .int .i64 q, .slice a l.length cap] ∧ NIs W (.slice a l.length cap) l := by
  obtain ⟨v0, v1, v2, v3, y0, y1, y2, y3, n, rfl, hd, _, g0, g1, g2, g3⟩ := open_agg4 Try.underlying52 (by kernel_rfl) (by kernel_rfl) hval h
  obtain ⟨q0, e0, _, w0⟩ := DataW.trod_int Try.underlying3 g0
  obtain ⟨q1, e1, _, w1⟩ := DataW.trod_int Try.underlying3 g1
  obtain ⟨q2, e2, _, w2⟩ := DataW.trod_int Try.underlying3 g2
  simp at e0 e1 e2
  subst e0 e1 e2
  obtain ⟨a, len, cap, rfl⟩ : ∃ a len cap, v3 = .slice a len cap := by
    rcases open_slice Try.underlying24 g3 with ⟨hcs, _⟩ | ⟨x, l, c, m, n, D, Pl, hcs, _⟩
    · simp at hcs; exact ⟨none, 0, 0, hcs⟩
    · simp at hcs; exact ⟨some x, l, c, hcs⟩
  have hN : DataW.Trod enc Try.prog W 0 spare held 24 (.slice a len cap) y3.1 y3.2 := ⟨n, g3⟩
  obtain ⟨l, rfl, hl⟩ := open_nums hN (fun x hx => hsz x (by rw [hd]; simp [DataW.weights, DataW.weightsEach, Try.underlying52, hx]))
  exact ⟨q0, q1, q2, bounds64 w0, bounds64 w1, bounds64 w2, a, cap, l, rfl, hl⟩
end Go.Proofs.Ytokdflbajnecpaa.Tn.Ax
