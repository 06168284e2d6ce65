/- JournalNone: for every string, the law answers true: a journal that is not there, or that no call made, answers ErrNil; so does Open of a disk that is not there. No condition. -/
import Derived.Test.YtckddmdgmjekdaaGreatBaK
import Derived.Test.YtckddmdgmjekdaaGreatDkK
import Derived.Test.YtckddmdgmjekdaaGreatDkFrame
namespace Go.Proofs.YtckddmdgmjekdaaGreat
open Go.ChangeShapes Go.WideShapes Go.ChangeAt Go.RowKit Go.Joins Go.Maps


theorem jready_of (v : Value) (W : World) (KM : Calls Tryz.prog 64 #[v] W fun e W' => e = .returned (.bool true) ∧ W' = W) : Calls Tryz.prog 78 #[v] W fun e W' => e = .returned (.int .i64 2) ∧ W' = W := by
  go_enter Tryz.func78, Tryz.ntmps78
  go_wp2_with (go_at_call 64; refine KM.mono ?_; rintro e w1 ⟨rfl, rfl⟩)
  go_ret
  exact ⟨rfl, rfl⟩
theorem jget_of (v : Value) (W : World) (KM : Calls Tryz.prog 64 #[v] W fun e W' => e = .returned (.bool true) ∧ W' = W) : Calls Tryz.prog 57 #[v] W fun e W' => e = .returned (.tuple #[.string ⟨#[]⟩, .int .i64 2]) ∧ W' = W := by
  have KR := jready_of v W KM
  go_enter Tryz.func57, Tryz.ntmps57
  go_wp2_with (go_at_call 78; refine KR.mono ?_; rintro e w1 ⟨rfl, rfl⟩)
  go_ret2
  exact ⟨rfl, rfl⟩
theorem jPut_of (v : Value) (s : ByteArray) (W : World) (KM : Calls Tryz.prog 64 #[v] W fun e W' => e = .returned (.bool true) ∧ W' = W) : Calls Tryz.prog 61 #[v, .string s] W fun e W' => e = .returned (.int .i64 2) ∧ W' = W := by
  go_enter Tryz.func61, Tryz.ntmps61
  go_wp2_with (go_at_call 64; refine KM.mono ?_; rintro e w1 ⟨rfl, rfl⟩)
  go_ret
  exact ⟨rfl, rfl⟩
theorem jSeq_of (v : Value) (W : World) (KM : Calls Tryz.prog 64 #[v] W fun e W' => e = .returned (.bool true) ∧ W' = W) : Calls Tryz.prog 47 #[v] W fun e W' => e = .returned (.int .i64 0) ∧ W' = W := by
  go_enter Tryz.func47, Tryz.ntmps47
  go_wp2_with (go_at_call 64; refine KM.mono ?_; rintro e w1 ⟨rfl, rfl⟩)
  go_ret
  exact ⟨rfl, rfl⟩
theorem jRoom_of (v : Value) (W : World) (KM : Calls Tryz.prog 64 #[v] W fun e W' => e = .returned (.bool true) ∧ W' = W) : Calls Tryz.prog 60 #[v] W fun e W' => e = .returned (.int .i64 0) ∧ W' = W := by
  go_enter Tryz.func60, Tryz.ntmps60
  go_wp2_with (go_at_call 64; refine KM.mono ?_; rintro e w1 ⟨rfl, rfl⟩)
  go_ret
  exact ⟨rfl, rfl⟩
theorem jOpen_of (v : Value) (W : World) (KM : Calls Tryz.prog 45 #[v] W fun e W' => e = .returned (.bool true) ∧ W' = W) : Calls Tryz.prog 38 #[v] W fun e W' => e = .returned (.tuple #[.pointer none, .int .i64 2]) ∧ W' = W := by
  have KR := read_of v W 0 KM
  go_enter Tryz.func38, Tryz.ntmps38
  go_wp2_with (go_at_call 53; refine KR.mono ?_; rintro e w1 ⟨rfl, rfl⟩)
  go_ret2
  exact ⟨rfl, rfl⟩
end Go.Proofs.YtckddmdgmjekdaaGreat
