/- Contracts of what package tree asks of a tree by itself: leaves, blank, hasLeaf, anyMember, members, find, firstBlank, withRoom. -/
import Derived.Test.YtcbafeneaoaglaaGreatDoorTrMem
namespace Go.Proofs.YtcbafeneaoaglaaGreatDoor
open Go.RowKit Go.Maps

theorem bwA (w : World) (o : Obj) : Below w.heap.size w (w.alloc o) := (Below.refl _ _).alloc (Nat.le_refl _) _
theorem leaves_any (a : Option Addr) (N c : Nat) (w : World) (hN : N ≤ 140737488355328) :
    Calls Tryz.prog 91 #[.agg #[.slice a N c]] w fun e w' => e = .returned (.int .i64 (((N + 1) / 2 : Nat) : Int)) ∧ Below w.heap.size w w' := by
  go_enter Tryz.func91, Tryz.ntmps91
  go_wp2
  go_ret
  exact ⟨by simp, bwA _ _⟩
set_option maxHeartbeats 1000000 in
theorem blank_any {w : World} {v : Value} {T : List Nd} (h : Trd w v T) {x : Nat} (hx : x < T.length) :
    Calls Tryz.prog 106 #[.agg #[v], .int .i64 (x : Int)] w fun e w' => e = .returned (.bool (!pos (ndAt T x))) ∧ Below w.heap.size w w' := by
  obtain ⟨a, c, rfl⟩ := h.slice
  obtain ⟨-, h2⟩ := h.at
  obtain ⟨b, o, rfl, h3⟩ := h2 (by omega)
  obtain ⟨u, ⟨c0, -, -, -⟩, -⟩ := h3 _ (bwA w (.cells #[.slice (some ⟨b, o, none⟩) T.length c] 25)) x hx
  have e : (!pos (ndAt T x)) = ((ndAt T x).pub == 0) := by unfold pos; simp [bne]
  rw [e]
  generalize (ndAt T x).pub = p at *
  have hl := h.len
  generalize T.length = N at *
  have x1 : (x : Int) < (N : Int) := by omega
  have x2 : (0 : Int) ≤ (x : Int) := by omega
  clear h h2 h3 e
  go_enter Tryz.func106, Tryz.ntmps106
  go_wp2
  go_ret
  exact ⟨rfl, bwA _ _⟩
end Go.Proofs.YtcbafeneaoaglaaGreatDoor
