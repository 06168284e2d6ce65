/- Texts joined: LgD TsA TsB TsC. -/
import Derived.Test.YtfbomgecdjhojaaGreatDoorZ04
import Derived.Test.YtfbomgecdjhojaaGreatDoorZ02
/- SameAdds, SameSeals, SameJoins of equal rows. -/
namespace Go.Proofs.YtfbomgecdjhojaaGreatDoor
open Go.RowKit Go.Maps
theorem wf_i64' {x : Int} (h : -9223372036854775808 ≤ x ∧ x ≤ 9223372036854775807) : (Lit.int .i64 x).wf = true := by
  simpa [Lit.wf, IntKind.min, IntKind.max, IntKind.signed, IntKind.bits] using h
end Go.Proofs.YtfbomgecdjhojaaGreatDoor

/- Contracts of the document's blank, leaf, leaves and some. -/
namespace Go.Proofs.YtfbomgecdjhojaaGreatDoor
open Go.RowKit Go.Maps
end Go.Proofs.YtfbomgecdjhojaaGreatDoor

/- The contract of the document's parent. -/
namespace Go.Proofs.YtfbomgecdjhojaaGreatDoor
open Go.RowKit Go.Maps
end Go.Proofs.YtfbomgecdjhojaaGreatDoor

/- The contract of the document's twice. -/
namespace Go.Proofs.YtfbomgecdjhojaaGreatDoor
open Go.RowKit Go.Maps
end Go.Proofs.YtfbomgecdjhojaaGreatDoor
