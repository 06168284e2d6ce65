/- Texts joined: LgD TsA TsB TsC. -/
import Derived.Test.YtihniafidgjlcaaGreatDoorZ04
import Derived.Test.YtihniafidgjlcaaGreatDoorZ02
/- SameAdds, SameSeals, SameJoins of equal rows. -/
namespace Go.Proofs.YtihniafidgjlcaaGreatDoor
open Go.RowKit Go.Maps
theorem wf_i64' {x : Int} (h : -9223372036854775808 ≤ x ∧ x ≤ 9223372036854775807) : (Lit.int .i64 x).wf = true := by
  simpa [Lit.wf, IntKind.min, IntKind.max, IntKind.signed, IntKind.bits] using h
end Go.Proofs.YtihniafidgjlcaaGreatDoor

/- Contracts of the document's blank, leaf, leaves and some. -/
namespace Go.Proofs.YtihniafidgjlcaaGreatDoor
open Go.RowKit Go.Maps
end Go.Proofs.YtihniafidgjlcaaGreatDoor

/- The contract of the document's parent. -/
namespace Go.Proofs.YtihniafidgjlcaaGreatDoor
open Go.RowKit Go.Maps
end Go.Proofs.YtihniafidgjlcaaGreatDoor

/- The contract of the document's twice. -/
namespace Go.Proofs.YtihniafidgjlcaaGreatDoor
open Go.RowKit Go.Maps
end Go.Proofs.YtihniafidgjlcaaGreatDoor
