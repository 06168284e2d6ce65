/- Three Booleans that came in. -/
import Derived.Test.YtcbafeneaoaglaaDoorTrFrame
import Derived.Laws.IdiomArrays
namespace Go.Proofs.YtcbafeneaoaglaaDoor.Tn
open Go.ChangeShapes Go.WideShapes Go.ChangeAt Go.RowKit Go.Joins Go.Deep

set_option maxRecDepth 100000 in
theorem open_bools3 {H : Type} {enc : TypeId × Value → H} {W : World} {spare : Nat → Bool} {held : Bool} {r : Reach} {b0 : Nat} {v : Value} {d : DataW H} {p : List MemPlace}
    (hval : Value.okWide Tryd.prog W r b0 22 v) (h : DataW.Trod enc Tryd.prog W 0 spare held 22 v d p) : ∃ a b c, v = .agg #[.bool a, .bool b, .bool c] := by
  have hc3 : Tryd.prog.cellsOf 22 = 3 := by kernel_rfl
  have hc1 : Tryd.prog.cellsOf 4 = 1 := by kernel_rfl
  have hu := Tryd.underlying22
  have hub := Tryd.underlying4
  obtain ⟨cs, rfl, hs⟩ : ∃ cs, v = .agg cs ∧ cs.size = 3 := by
    simp only [Value.okWide, hu] at hval
    obtain ⟨cs, h1, h2, _⟩ := hval
    exact ⟨cs, h1, h2.trans hc3⟩
  obtain ⟨x, y, z, rfl⟩ : ∃ x y z, cs = #[x, y, z] := by
    obtain ⟨l⟩ := cs
    match l, hs with
    | [x, y, z], _ => exact ⟨x, y, z, rfl⟩
  obtain ⟨fuel, hf⟩ := h
  simp [Value.cells] at hf
  obtain ⟨y0, y1, y2, n, _, g0, g1, g2⟩ := trod_array3 hu hc1 hf
  obtain ⟨a, e0, _⟩ := DataW.trod_bool hub g0
  obtain ⟨b, e1, _⟩ := DataW.trod_bool hub g1
  obtain ⟨c, e2, _⟩ := DataW.trod_bool hub g2
  simp at e0 e1 e2
  exact ⟨a, b, c, by rw [e0, e1, e2]⟩
end Go.Proofs.YtcbafeneaoaglaaDoor.Tn
