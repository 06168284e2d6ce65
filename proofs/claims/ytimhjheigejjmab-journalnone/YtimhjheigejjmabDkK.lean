/- Contracts of a disk that is not there, or that no call made. -/
import Derived.Test.YtimhjheigejjmabDkA
namespace Go.Proofs.Ytimhjheigejjmab
open Go.RowKit Go.Maps

theorem sync_of (p : Value) (w : World) (K0 : Calls Try.prog 52 #[p] w fun e w' => e = .returned (.bool true) ∧ w' = w) :
    Calls Try.prog 14 #[p] w fun e w' => e = .returned (.int .i64 2) ∧ w' = w := by
  have K := ready_of p w K0
  clear K0
  go_enter Try.func14, Try.ntmps14
  go_wp2_with fail
  refine K.mono ?_
  rintro e w ⟨rfl, rfl⟩
  go_wp2_with fail
  go_ret
  exact ⟨rfl, rfl⟩
theorem read_of (p : Value) (w : World) (x : Int) (K0 : Calls Try.prog 52 #[p] w fun e w' => e = .returned (.bool true) ∧ w' = w) :
    Calls Try.prog 15 #[p, .int .i64 x] w fun e w' => e = .returned (.tuple #[.string ByteArray.empty, .int .i64 2]) ∧ w' = w := by
  have K := ready_of p w K0
  clear K0
  go_enter Try.func15, Try.ntmps15
  go_wp2_with fail
  refine K.mono ?_
  rintro e w ⟨rfl, rfl⟩
  go_wp2_with fail
  go_ret2
  exact ⟨rfl, rfl⟩
theorem cut_of (p : Value) (w : World) (x y : Int) (K0 : Calls Try.prog 52 #[p] w fun e w' => e = .returned (.bool true) ∧ w' = w) :
    Calls Try.prog 24 #[p, .int .i64 x, .int .i64 y] w fun e w' => e = .returned (.int .i64 2) ∧ w' = w := by
  have K := ready_of p w K0
  clear K0
  go_enter Try.func24, Try.ntmps24
  go_wp2_with fail
  refine K.mono ?_
  rintro e w ⟨rfl, rfl⟩
  go_wp2_with fail
  go_ret
  exact ⟨rfl, rfl⟩
theorem crash_of (p : Value) (w : World) (x : Int) (K0 : Calls Try.prog 52 #[p] w fun e w' => e = .returned (.bool true) ∧ w' = w) :
    Calls Try.prog 26 #[p, .int .i64 x] w fun e w' => e = .returned (.int .i64 2) ∧ w' = w := by
  have K := ready_of p w K0
  clear K0
  go_enter Try.func26, Try.ntmps26
  go_wp2_with fail
  refine K.mono ?_
  rintro e w ⟨rfl, rfl⟩
  go_wp2_with fail
  go_ret
  exact ⟨rfl, rfl⟩
theorem start_of (p : Value) (w : World) (K : Calls Try.prog 52 #[p] w fun e w' => e = .returned (.bool true) ∧ w' = w) :
    Calls Try.prog 27 #[p] w fun e w' => e = .returned (.int .i64 2) ∧ w' = w := by
  go_enter Try.func27, Try.ntmps27
  go_wp2_with fail
  refine K.mono ?_
  rintro e w ⟨rfl, rfl⟩
  go_wp2_with fail
  go_ret
  exact ⟨rfl, rfl⟩
theorem write_of (p : Option Addr) (w : World) (x : Int) (s : ByteArray) (K0 : ∀ W : World, Below w.heap.size w W → Calls Try.prog 52 #[.pointer p] W fun e w' => e = .returned (.bool true) ∧ w' = W) :
    Calls Try.prog 13 #[.pointer p, .int .i64 x, .string s] w fun e w' => e = .returned (.int .i64 2) ∧ Below w.heap.size w w' := by
  have hb : Below w.heap.size w (w.alloc (.cells #[.pointer p] 23)) := (Below.refl _ _).alloc (Nat.le_refl _) _
  have K := ready_of (.pointer p) _ (K0 _ hb)
  have HB := hide hb
  clear K0 hb
  go_enter Try.func13, Try.ntmps13
  go_wp2_with fail
  refine K.mono ?_
  rintro e w1 ⟨rfl, rfl⟩
  go_wp2_with fail
  go_ret
  exact ⟨rfl, unhide HB⟩

end Go.Proofs.Ytimhjheigejjmab
