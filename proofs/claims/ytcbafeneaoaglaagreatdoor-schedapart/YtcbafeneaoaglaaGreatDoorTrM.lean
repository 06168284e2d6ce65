/- The contract of Add, whatever comes of it; of New. -/
import Derived.Test.YtcbafeneaoaglaaGreatDoorTrL
namespace Go.Proofs.YtcbafeneaoaglaaGreatDoor
open Go.RowKit Go.Maps

theorem trd_nil (w : World) : Trd w (.slice none 0 0) [] := ⟨by simp, by simp, Or.inl ⟨rfl, none, 0, rfl⟩⟩
end Go.Proofs.YtcbafeneaoaglaaGreatDoor
