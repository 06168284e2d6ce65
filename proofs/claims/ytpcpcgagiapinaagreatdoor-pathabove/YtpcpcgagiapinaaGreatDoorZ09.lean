/- Texts joined: TrL TrM TrN TrO. -/
import Derived.Test.YtpcpcgagiapinaaGreatDoorZ08
import Derived.Deep.CutRange
/- The contract of Add. -/
namespace Go.Proofs.YtpcpcgagiapinaaGreatDoor
open Go.RowKit Go.Maps
def addR (T : List Nd) (m e p : Int) : List Nd := if addE T m e p = 0 then addT T m e p else []
def addA (T : List Nd) (m e p : Int) : Nat := if addE T m e p = 0 then fb T else 0
end Go.Proofs.YtpcpcgagiapinaaGreatDoor

/- The contract of Add, whatever comes of it; of New. -/
namespace Go.Proofs.YtpcpcgagiapinaaGreatDoor
open Go.RowKit Go.Maps
theorem trd_nil (w : World) : Trd w (.slice none 0 0) [] := ⟨by simp, by simp, Or.inl ⟨rfl, none, 0, rfl⟩⟩
end Go.Proofs.YtpcpcgagiapinaaGreatDoor

/- The contract of Remove. -/
namespace Go.Proofs.YtpcpcgagiapinaaGreatDoor
open Go.RowKit Go.Maps
theorem fit_self {T : List Nd} {m : Nat} (h : T.length = m) : fit m T = T := by
  rw [fit_eq, ← h]; simp
end Go.Proofs.YtpcpcgagiapinaaGreatDoor

/- The contract of Remove, whatever comes of it; of New. -/
namespace Go.Proofs.YtpcpcgagiapinaaGreatDoor
open Go.RowKit Go.Maps
end Go.Proofs.YtpcpcgagiapinaaGreatDoor
