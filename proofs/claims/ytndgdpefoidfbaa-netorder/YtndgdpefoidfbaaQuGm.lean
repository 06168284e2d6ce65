/- May links be (mayBe); Check. mkQuG.py writes it. -/
import Derived.Test.YtndgdpefoidfbaaZ22
import Derived.Deep.RegionHeld3
namespace Go.Proofs.Ytndgdpefoidfbaa
open Go.RowKit Go.Maps
theorem ex_bool (p : Prop) : ∃ b : Bool, b = true ↔ p := by
  by_cases h : p
  · exact ⟨true, ⟨fun _ => h, fun _ => rfl⟩⟩
  · exact ⟨false, ⟨fun q => (by cases q), fun q => absurd q h⟩⟩
end Go.Proofs.Ytndgdpefoidfbaa
