/- Contracts of the Writer's smallest functions: fold, unfold, missing, put. -/
import Derived.Test.YtimhjheigejjmabWiMem
namespace Go.Proofs.Ytimhjheigejjmab.Wi
open Go.RowKit

set_option maxRecDepth 100000 in
theorem ret_int {k : IntKind} {a b : Int} (h : a = b) : Ending.returned (.int k a) = .returned (.int k b) := by rw [h]

def lim : Nat → Nat
  | 0 => 128
  | f + 1 => 128 * lim f
set_option maxRecDepth 100000 in
theorem lim_step (f z : Nat) (h : z < lim f) (hz : ¬ z < 128) : ∃ g, f = g + 1 ∧ z / 128 < lim g := by
  cases f with
  | zero => exact absurd h hz
  | succ g => exact ⟨g, rfl, Nat.div_lt_of_lt_mul h⟩
set_option maxRecDepth 100000 in
theorem lim9 (z : Nat) (h : z < 18446744073709551616) : z < lim 9 := by
  have e : lim 9 = 1180591620717411303424 := by decide
  omega

set_option maxRecDepth 100000 in
theorem wmiss_nil (w : World) : Calls Try.prog 96 #[.pointer none] w fun e w' => e = .returned (.bool true) ∧ w' = w := by
  go_enter Try.func96, Try.ntmps96
  go_wp2
  go_ret
  exact ⟨rfl, rfl⟩
set_option maxRecDepth 100000 in
theorem wmiss_at (w : World) (b : Nat) (m : Bool) (c0 : w.cell? ⟨b, 0, none⟩ = some (.bool m)) :
    Calls Try.prog 96 #[.pointer (some ⟨b, 0, none⟩)] w fun e w' => e = .returned (.bool (!m)) ∧ w' = w := by
  go_enter Try.func96, Try.ntmps96
  go_wp2
  go_ret
  exact ⟨rfl, rfl⟩

end Go.Proofs.Ytimhjheigejjmab.Wi
