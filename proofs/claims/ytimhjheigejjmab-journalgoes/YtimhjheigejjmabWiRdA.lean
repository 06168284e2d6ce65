/- Contracts of the Reader's smallest functions, of one that was made. -/
import Derived.Test.YtimhjheigejjmabWiWrB
import Derived.Deep.QuietTactic
import Derived.BigQuiet
namespace Go.Proofs.Ytimhjheigejjmab.Wi
open Go.RowKit

/-- A Reader that was made, at block b, of the bytes s, of which k were taken. -/
def RD (w : World) (b : Nat) (s : ByteArray) (k : Nat) : Prop := w.heap[b]? = some (.cells #[.bool true, .string s, .int .i64 k] 126 (0, 0))

set_option maxRecDepth 100000 in
theorem RD.c0 {w : World} {b : Nat} {s : ByteArray} {k : Nat} (h : RD w b s k) : w.cell? ⟨b, 0, none⟩ = some (.bool true) := by unfold RD at h; simp [World.cell?, h]
set_option maxRecDepth 100000 in
theorem RD.c1 {w : World} {b : Nat} {s : ByteArray} {k : Nat} (h : RD w b s k) : w.cell? ⟨b, 1, none⟩ = some (.string s) := by unfold RD at h; simp [World.cell?, h]
set_option maxRecDepth 100000 in
theorem RD.c2 {w : World} {b : Nat} {s : ByteArray} {k : Nat} (h : RD w b s k) : w.cell? ⟨b, 2, none⟩ = some (.int .i64 k) := by unfold RD at h; simp [World.cell?, h]
set_option maxRecDepth 100000 in
theorem RD.f2 {w : World} {b : Nat} {s : ByteArray} {k : Nat} (h : RD w b s k) : w.frozen? ⟨b, 2, none⟩ = false := by unfold RD at h; simp [World.frozen?, h]
set_option maxRecDepth 100000 in
theorem RD.set {w : World} {b : Nat} {s : ByteArray} {k : Nat} (h : RD w b s k) (j : Nat) : RD (w.setCell ⟨b, 2, none⟩ (.int .i64 j)) b s j := by
  unfold RD at h ⊢; simp [World.setCell, Array.getElem?_modify, h]
set_option maxRecDepth 100000 in
theorem RD.keep {w w' : World} {b : Nat} {s : ByteArray} {k : Nat} {S : List Nat} (h : RD w b s k) (hf : Fr S w w') (hb : b ∉ S) : RD w' b s k := by
  unfold RD at h ⊢; rw [hf.block b (lt_of_blk h) hb]; exact h
set_option maxRecDepth 100000 in
theorem RD.new {w w' : World} {b : Nat} {s : ByteArray} {k : Nat} (h : RD w b s k) (hf : Fr [] w w') : RD w' b s k := h.keep hf (by simp)

set_option maxRecDepth 100000 in
theorem rmiss_nil (w : World) : Calls Try.prog 94 #[.pointer none] w fun e w' => e = .returned (.bool true) ∧ w' = w := by
  go_enter Try.func94, Try.ntmps94
  go_wp2
  go_ret
  exact ⟨rfl, rfl⟩
set_option maxRecDepth 100000 in
theorem rmiss_at (w : World) (b : Nat) (m : Bool) (c0 : w.cell? ⟨b, 0, none⟩ = some (.bool m)) :
    Calls Try.prog 94 #[.pointer (some ⟨b, 0, none⟩)] w fun e w' => e = .returned (.bool (!m)) ∧ w' = w := by
  go_enter Try.func94, Try.ntmps94
  go_wp2
  go_ret
  exact ⟨rfl, rfl⟩

set_option maxRecDepth 100000 in
theorem ret_pair {a b c d : Value} (h : a = b) (h2 : c = d) : Ending.returned (.tuple #[a, c]) = .returned (.tuple #[b, d]) := by rw [h, h2]
set_option maxRecDepth 100000 in
theorem wrap_byte (c : UInt8) : wrap64 (c.toNat : Int) = c.toNat := by have := c.toNat_lt; unfold wrap64; omega

set_option maxHeartbeats 400000 in
set_option maxRecDepth 100000 in
theorem takeByte_none (b k : Nat) (s : ByteArray) (w : World) (h : RD w b s k) (hk : s.size ≤ k) :
    Calls Try.prog 88 #[.pointer (some ⟨b, 0, none⟩)] w fun e w' => e = .returned (.tuple #[.int .i64 0, .int .i64 4]) ∧ RD w' b s k ∧ Fr [b] w w' := by
  have c1 := h.c1
  have c2 := h.c2
  go_enter Try.func88, Try.ntmps88
  go_wp2
  go_quiet (fail)
  go_wp2
  go_ret2
  exact ⟨rfl, h.new ((Fr.refl _ _).drewN _), (Fr.refl _ _).drewN _⟩

set_option maxHeartbeats 400000 in
set_option maxRecDepth 100000 in
theorem takeByte_some (b k : Nat) (s : ByteArray) (w : World) (h : RD w b s k) (hk : k < s.size) (hs : s.size ≤ 140737488355328) :
    Calls Try.prog 88 #[.pointer (some ⟨b, 0, none⟩)] w fun e w' => e = .returned (.tuple #[.int .i64 s[k].toNat, .int .i64 0]) ∧ RD w' b s (k + 1) ∧ Fr [b] w w' := by
  have c1 := h.c1
  have c2 := h.c2
  have f2 := h.f2
  go_enter Try.func88, Try.ntmps88
  go_wp2
  go_quiet (fail)
  go_wp2
  go_quiet (fail)
  go_wp2
  go_ret2
  exact ⟨ret_pair (congrArg (Value.int .i64) (wrap_byte _)) rfl, (h.new ((Fr.refl _ _).drewN _)).set (k + 1), ((Fr.refl _ _).drewN _).setCell (Or.inr (by simp)) _⟩

end Go.Proofs.Ytimhjheigejjmab.Wi
