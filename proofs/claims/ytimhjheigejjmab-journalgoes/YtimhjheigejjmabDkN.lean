/- Noughts, of the document's disk. -/
import Derived.Test.YtimhjheigejjmabDkH
namespace Go.Proofs.Ytimhjheigejjmab
open Go.RowKit Go.Maps

theorem nought_list : (⟨(List.replicate 64 (0 : UInt8)).toArray⟩ : ByteArray) = nought := rfl
theorem madeN (n : Nat) : (madeCells (Value.int .u8 0).cells (n * 1)).toList = List.replicate n (.int .u8 0) := by
  rw [made_zero]; apply List.ext_getElem?; intro j
  rw [List.getElem?_replicate]
  by_cases h : j < n <;> simp [filC, h]
theorem conv_zero (w1 : World) (g n : Nat) (h : w1.ownsRow g 5 1 (.slice (some ⟨g, 0, none⟩) n n) n (madeCells (Value.int .u8 0).cells (n * 1)).toList) : (convert 76 9 (.slice (some ⟨g, 0, none⟩) n n)).run Try.prog w1 = .ok (.string ⟨(List.replicate n (0 : UInt8)).toArray⟩) w1 := by
  have hcv := run_convert_bytes_back (P := Try.prog) w1 76 9 5 ⟨g, 0, none⟩ n (List.replicate n (0 : UInt8)) Try.underlying76 Try.underlying5 Try.underlying9 (fun j hj => by
    have hj' : j < n := by simpa using hj
    rw [Addr.add_mid, Nat.zero_add]
    refine own_cell h rfl ?_
    rw [madeN, List.getElem?_replicate, if_pos hj']
    simp)
  rw [List.length_replicate] at hcv
  exact hcv
set_option maxRecDepth 100000 in
set_option maxHeartbeats 4000000 in
theorem noughts_any (w : World) : Calls Try.prog 12 #[] w fun e w' => e = .returned (.string nought) ∧ Below w.heap.size w w' := by
  obtain ⟨i0, hi, hz0, hz1, hz2⟩ := info_u8
  have hB1 : i0.bytes * 64 ≤ 281474976710656 := by rw [hz2]; omega
  have hB2 : 64 ≤ maxLen := by unfold maxLen; omega
  have HB := hide (And.intro hB1 hB2)
  clear hB1 hB2
  go_enter Try.func12, Try.ntmps12
  go_wp2_with (first | (at_make; refine wpList_make_full _ rfl _ _ 76 rfl w.heap.size 5 i0 (.int .u8 0) 1 Try.underlying76 hi hz0 hz1 _ _ _ _ 64 rfl rfl rfl rfl (unhide HB).1 (unhide HB).2 (Nat.le_refl _) ?_; intro w1 hrow1 hgr1))
  have hcv := conv_zero w1 w.heap.size 64 hrow1
  rw [nought_list] at hcv
  have HR : Hid (Below w.heap.size w w1) := ⟨hgr1.os, hgr1.tape, hgr1.output, hgr1.size, fun k hk => hgr1.block k hk (by simp)⟩
  clear hrow1 hgr1
  go_wp2_with fail
  erw [hcv]
  go_wp2_with fail
  go_ret
  exact ⟨rfl, unhide HR⟩

end Go.Proofs.Ytimhjheigejjmab
