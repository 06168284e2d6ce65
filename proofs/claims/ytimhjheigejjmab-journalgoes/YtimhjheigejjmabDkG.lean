/- Contract of Read of package disk. -/
import Derived.Test.YtimhjheigejjmabDkC
namespace Go.Proofs.Ytimhjheigejjmab
open Go.RowKit Go.Maps

theorem blk_cell {X : World} {b : Nat} {s : ByteArray} (h : X.heap[b]? = some (.cells (blkC s).toArray 78 (0, 0))) (j : Nat) (hj : j < s.data.toList.length) : X.cell? ((⟨b, 0, none⟩ : Addr).add j) = some (.int .u8 ((s.data.toList[j]).toNat : Int)) := by
  rw [Addr.add_mid, Nat.zero_add, cell_of_row X b j _ _ _ h]
  simp only [List.getElem?_toArray, blkC, List.getElem?_map, List.getElem?_eq_getElem hj, Option.map_some]
theorem conv_block (X : World) (b : Nat) (s : ByteArray) (hs : s.size = 64) (h : X.heap[b]? = some (.cells (blkC s).toArray 78 (0, 0))) : (convert 76 9 (.slice (some ⟨b, 0, none⟩) 64 64)).run Try.prog X = .ok (.string s) X := by
  have hl : s.data.toList.length = 64 := by rw [Array.length_toList]; exact hs
  have := run_convert_bytes_back (P := Try.prog) X 76 9 5 ⟨b, 0, none⟩ 64 s.data.toList Try.underlying76 Try.underlying5 Try.underlying9 (blk_cell h)
  rw [hl] at this
  rw [this]
set_option maxRecDepth 100000 in
theorem read_down {d : Nat} {S : DS} {Z : List Nat} {w : World} (h : DkS w d S Z) (hu : S.up = false) (x : Int) :
    Calls Try.prog 15 #[ptr d, .int .i64 x] w fun e w' => e = .returned (.tuple #[.string ByteArray.empty, .int .i64 6]) ∧ w' = w := by
  have K := ready_any h
  rw [hu] at K
  unfold rdy ptr at *
  simp only [if_true] at K
  clear h
  go_enter Try.func15, Try.ntmps15
  go_wp2_with fail
  refine K.mono ?_
  rintro e w ⟨rfl, rfl⟩
  go_wp2_with fail
  go_ret2
  exact ⟨rfl, rfl⟩
set_option maxRecDepth 100000 in
theorem read_out {d : Nat} {S : DS} {Z : List Nat} {w : World} (h : DkS w d S Z) (hu : S.up = true) (x : Int) (hx : x < 0 ∨ (S.N : Int) ≤ x) :
    Calls Try.prog 15 #[ptr d, .int .i64 x] w fun e w' => e = .returned (.tuple #[.string ByteArray.empty, .int .i64 1]) ∧ w' = w := by
  have K := ready_any h
  have KH := has_any h x
  rw [hu] at K
  have e1 : decide (0 ≤ x ∧ x < (S.N : Int)) = false := by simp; omega
  rw [e1] at KH
  unfold rdy ptr at *
  simp only [Bool.true_eq_false, if_false] at K
  clear h e1 hx
  go_enter Try.func15, Try.ntmps15
  go_wp2_with fail
  refine K.mono ?_
  rintro e w ⟨rfl, rfl⟩
  go_wp2_with fail
  refine KH.mono ?_
  rintro e w ⟨rfl, rfl⟩
  go_wp2_with fail
  go_ret2
  exact ⟨rfl, rfl⟩
set_option maxRecDepth 100000 in
set_option maxHeartbeats 2000000 in
theorem read_in {d : Nat} {S : DS} {Z : List Nat} {w : World} (h : DkS w d S Z) (hu : S.up = true) (k : Nat) (hk : k < S.N) :
    Calls Try.prog 15 #[ptr d, .int .i64 (k : Int)] w fun e w' => e = .returned (.tuple #[.string (S.now k), .int .i64 0]) ∧ Below w.heap.size w w' := by
  have K := ready_any h
  have KH := has_any h (k : Int)
  rw [hu] at K
  have e1 : decide (0 ≤ (k : Int) ∧ (k : Int) < (S.N : Int)) = true := by simp; omega
  rw [e1] at KH
  obtain ⟨nb, sb, cb, fv, cv, rfl, h1⟩ := h
  have hs := h1.ok.now k
  have L := h1.now.look h1.ok.n2 hk
  obtain ⟨_, _, _, _, c4, _, _, _, _⟩ := h1.cells
  unfold blkV at L
  obtain ⟨T, hT⟩ : ∃ T, T = (blkC (S.now k)).toArray := ⟨_, rfl⟩
  rw [← hT] at L
  have hT1 : T.size = 64 := by rw [hT]; exact blk_sz hs
  have hT2 : T.all (·.oneCell') = true := by rw [hT]; exact blk_one _
  have HC := hide (fun (X : World) (b : Nat) (g : X.heap[b]? = some (.cells T 78 (0, 0))) => conv_block X b (S.now k) hs (by rw [← hT]; exact g))
  unfold rdy ptr at *
  simp only [Bool.true_eq_false, if_false] at K
  clear h1 e1 hT hs hk hu
  go_enter Try.func15, Try.ntmps15
  go_wp2_with fail
  refine K.mono ?_
  rintro e w ⟨rfl, rfl⟩
  go_wp2_with fail
  refine KH.mono ?_
  rintro e w ⟨rfl, rfl⟩
  go_upto_region 7 with (refine wpList_store_row rfl 78 (.tmp 7) (.tmp 22) rfl w.heap.size T rfl rfl 78 _ (heap_alloc_new _ _) (infoRow hT1) (by rw [hT1]; rfl) hT2 ?_)
  generalize hW : World.setRow (w.alloc _) w.heap.size T = W1
  have hc := unhide HC W1 w.heap.size (by rw [← hW]; exact setRow_heap _ _ _ _ _ _ (heap_alloc_new _ _))
  have hb : Below w.heap.size w W1 := by rw [← hW]; exact below_setRow ((Below.refl _ _).alloc (Nat.le_refl _) _) (Nat.le_refl _) _
  clear hW HC L hT1 hT2 c4
  have HB := hide hb
  clear hb
  go_wp2_with fail
  go_ret2
  exact ⟨rfl, unhide HB⟩
theorem read_any {d : Nat} {S : DS} {Z : List Nat} {w : World} (h : DkS w d S Z) (x : Int) :
    Calls Try.prog 15 #[ptr d, .int .i64 x] w fun e w' => e = .returned (.tuple #[.string (S.read x).1, .int .i64 (S.read x).2]) ∧ Below w.heap.size w w' := by
  unfold DS.read
  cases hu : S.up
  · simp only [if_true]
    refine (read_down h hu x).mono ?_
    rintro e w' ⟨rfl, rfl⟩
    exact ⟨rfl, Below.refl _ _⟩
  · simp only [Bool.true_eq_false, if_false]
    by_cases hx : x < 0 ∨ (S.N : Int) ≤ x
    · simp only [hx, if_true]
      refine (read_out h hu x hx).mono ?_
      rintro e w' ⟨rfl, rfl⟩
      exact ⟨rfl, Below.refl _ _⟩
    · simp only [hx, if_false]
      have K := read_in h hu x.toNat (by omega)
      have e : ((x.toNat : Nat) : Int) = x := by omega
      rw [e] at K
      exact K

end Go.Proofs.Ytimhjheigejjmab
