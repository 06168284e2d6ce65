/- Contracts of a disk that is not there, or that no call made. -/
import Derived.Test.YtckddmdgmjekdaaGreatBaD
namespace Go.Proofs.YtckddmdgmjekdaaGreat
open Go.RowKit Go.Maps

theorem sync_of (p : Value) (w : World) (K0 : Calls Tryz.prog 45 #[p] w fun e w' => e = .returned (.bool true) ∧ w' = w) :
    Calls Tryz.prog 109 #[p] w fun e w' => e = .returned (.int .i64 2) ∧ w' = w := by
  have K := ready_of p w K0
  clear K0
  go_enter Tryz.func109, Tryz.ntmps109
  go_wp2_with fail
  refine K.mono ?_
  rintro e w ⟨rfl, rfl⟩
  go_wp2_with fail
  go_ret
  exact ⟨rfl, rfl⟩
theorem read_of (p : Value) (w : World) (x : Int) (K0 : Calls Tryz.prog 45 #[p] w fun e w' => e = .returned (.bool true) ∧ w' = w) :
    Calls Tryz.prog 53 #[p, .int .i64 x] w fun e w' => e = .returned (.tuple #[.string ByteArray.empty, .int .i64 2]) ∧ w' = w := by
  have K := ready_of p w K0
  clear K0
  go_enter Tryz.func53, Tryz.ntmps53
  go_wp2_with fail
  refine K.mono ?_
  rintro e w ⟨rfl, rfl⟩
  go_wp2_with fail
  go_ret2
  exact ⟨rfl, rfl⟩
theorem cut_of (p : Value) (w : World) (x y : Int) (K0 : Calls Tryz.prog 45 #[p] w fun e w' => e = .returned (.bool true) ∧ w' = w) :
    Calls Tryz.prog 19 #[p, .int .i64 x, .int .i64 y] w fun e w' => e = .returned (.int .i64 2) ∧ w' = w := by
  have K := ready_of p w K0
  clear K0
  go_enter Tryz.func19, Tryz.ntmps19
  go_wp2_with fail
  refine K.mono ?_
  rintro e w ⟨rfl, rfl⟩
  go_wp2_with fail
  go_ret
  exact ⟨rfl, rfl⟩
theorem crash_of (p : Value) (w : World) (x : Int) (K0 : Calls Tryz.prog 45 #[p] w fun e w' => e = .returned (.bool true) ∧ w' = w) :
    Calls Tryz.prog 21 #[p, .int .i64 x] w fun e w' => e = .returned (.int .i64 2) ∧ w' = w := by
  have K := ready_of p w K0
  clear K0
  go_enter Tryz.func21, Tryz.ntmps21
  go_wp2_with fail
  refine K.mono ?_
  rintro e w ⟨rfl, rfl⟩
  go_wp2_with fail
  go_ret
  exact ⟨rfl, rfl⟩
theorem start_of (p : Value) (w : World) (K : Calls Tryz.prog 45 #[p] w fun e w' => e = .returned (.bool true) ∧ w' = w) :
    Calls Tryz.prog 22 #[p] w fun e w' => e = .returned (.int .i64 2) ∧ w' = w := by
  go_enter Tryz.func22, Tryz.ntmps22
  go_wp2_with fail
  refine K.mono ?_
  rintro e w ⟨rfl, rfl⟩
  go_wp2_with fail
  go_ret
  exact ⟨rfl, rfl⟩
theorem write_of (p : Option Addr) (w : World) (x : Int) (s : ByteArray) (K0 : ∀ W : World, Below w.heap.size w W → Calls Tryz.prog 45 #[.pointer p] W fun e w' => e = .returned (.bool true) ∧ w' = W) :
    Calls Tryz.prog 108 #[.pointer p, .int .i64 x, .string s] w fun e w' => e = .returned (.int .i64 2) ∧ Below w.heap.size w w' := by
  have hb : Below w.heap.size w (w.alloc (.cells #[.pointer p] 33)) := (Below.refl _ _).alloc (Nat.le_refl _) _
  have K := ready_of (.pointer p) _ (K0 _ hb)
  have HB := hide hb
  clear K0 hb
  go_enter Tryz.func108, Tryz.ntmps108
  go_wp2_with fail
  refine K.mono ?_
  rintro e w1 ⟨rfl, rfl⟩
  go_wp2_with fail
  go_ret
  exact ⟨rfl, unhide HB⟩

end Go.Proofs.YtckddmdgmjekdaaGreat
