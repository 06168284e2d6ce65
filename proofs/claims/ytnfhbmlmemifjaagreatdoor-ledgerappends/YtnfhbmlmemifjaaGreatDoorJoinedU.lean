/- What the rows of a great seat have closed, of the program alone. -/
import Derived.Test.YtnfhbmlmemifjaaGreatDoorRows
import Derived.ProofKit
import Derived.JoinedOf
namespace Go.Proofs.YtnfhbmlmemifjaaGreatDoor
open Go.ChangeShapes Go.WideShapes Go.ChangeAt Go.RowKit
theorem closed_k1 : (laidOutB Tryz.prog) = true := by kernel_rfl
theorem closed_k2 : (mapsRowed Tryz.prog) = true := by kernel_rfl
theorem closed_k6 : ((Tryz.prog.stops == [])) = true := by kernel_rfl
theorem closed_k8 : ((Tryz.prog.stopKnobs == [])) = true := by kernel_rfl
theorem closed_k24 : (Tryz.prog.stopsHeard) = true := by kernel_rfl
theorem closed_k25 : (Tryz.prog.mayEnter) = true := by kernel_rfl
end Go.Proofs.YtnfhbmlmemifjaaGreatDoor
