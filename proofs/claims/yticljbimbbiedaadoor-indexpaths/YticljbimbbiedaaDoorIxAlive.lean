/- The contract of alive, the end of every law of layer 2. -/
import Derived.Test.YticljbimbbiedaaDoorIxList
namespace Go.Proofs.YticljbimbbiedaaDoor
open Go.RowKit

theorem nd_val {k m n : Nat} (h : nd k m = n) (hn : n < 9223372036854775808) : lvl (n : Int) = (k : Nat) := by
  subst h; exact lvl_nd hn

theorem lits : parV 5 4 = 3 ∧ parB 5 4 = true ∧ cop 4 4 = [6, 1] ∧ com 0 2 4 = 1 ∧ wid 4 = 7 ∧ rot 3 = -1 := by decide +kernel

theorem two_own (w : World) (a b : Int) : Ints 0 (w.alloc (.cells #[.int .i64 a, .int .i64 b] 3)) (.slice (some ⟨w.heap.size, 0, none⟩) 2 2) [a, b] :=
  ⟨rfl, Or.inr ⟨w.heap.size, 2, #[.int .i64 a, .int .i64 b], rfl, Nat.zero_le _, heap_alloc_new w _, Nat.le_refl _, by unfold maxLen; omega, rfl, rfl⟩⟩

set_option maxHeartbeats 1000000 in
theorem alive_any (w : World) (hT : Tab w) :
    Calls Tryd.prog 5 #[] w fun e w' => e = .returned (.bool true) ∧ Below w.heap.size w w' := by
  obtain ⟨l1, l2, l3, l4, l5, l6⟩ := lits
  have K1 := parent_any 5 4 w hT
  have K2 := copath_any 4 4 w hT
  rw [l1, l2] at K1
  rw [l3] at K2
  have HL := hide (And.intro l4 (And.intro l5 l6))
  clear l1 l2 l3 l4 l5 l6
  go_enter Tryd.func5, Tryd.ntmps5
  go_wp2_with fail
  refine K1.mono ?_
  rintro e w ⟨rfl, rfl⟩
  go_wp2_with fail
  refine K2.mono ?_
  rintro e w1 ⟨v, rfl, hv, hb1⟩
  go_wp2_with fail
  refine (same_any _ _ _ _ _ ((hv.nums).bw (Below.refl _ _ |>.alloc (Nat.le_refl _) _)) (two_own w1 6 1).nums).mono ?_
  rintro e w2 ⟨rfl, hb2⟩
  have b2 : Below w.heap.size w w2 := bw_tr (hb1.alloc hb1.size _) hb2
  have K3 := common_any 0 2 4 w2 (by omega) (by omega) (hT.bw b2)
  rw [(unhide HL).1] at K3
  go_wp2_with fail
  refine K3.mono ?_
  rintro e w3 ⟨rfl, hb3⟩
  have b3 := bw_tr b2 hb3
  have K4 := width_any 4 w3
  have K5 := root_any 3 w3
  rw [(unhide HL).2.1] at K4
  rw [(unhide HL).2.2] at K5
  go_wp2_with fail
  refine K4.mono ?_
  rintro e w3 ⟨rfl, rfl⟩
  go_wp2_with fail
  refine K5.mono ?_
  rintro e w3 ⟨rfl, rfl⟩
  go_wp2
  go_ret
  exact ⟨rfl, b3⟩

end Go.Proofs.YticljbimbbiedaaDoor
