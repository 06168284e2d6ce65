/- Contracts of package journal: filled. -/
import Derived.Test.YtimhjheigejjmabJnA
namespace Go.Proofs.Ytimhjheigejjmab
open Go.RowKit Go.Maps

theorem arrU : Try.prog.underlying 77 = some (.array 64 5) := by kernel_rfl
theorem fill_cells (s : ByteArray) : blkC (fill s.data.toList) = (blkC s).take 64 ++ (blkC nought).drop (min 64 s.size) := by
  have hs : s.data.toList.length = s.size := Array.length_toList
  unfold blkC fill
  simp only [List.map_append, List.map_take, List.map_replicate, hs]
  congr 1
  have : nought.data.toList = List.replicate 64 0 := rfl
  rw [this, List.map_replicate, List.drop_replicate]
  congr 1
  omega
set_option maxRecDepth 100000 in
theorem run_copy_fill (w : World) (b : Nat) (s : ByteArray) (hs : s.size ≤ 140737488355328) (h : w.heap[b]? = some (.cells (blkC nought).toArray 77 (0, 0))) : (Builtin.copy_ #[76, 9] 3 #[.slice (some ⟨b, 0, none⟩) 64 64, .string s]).run Try.prog w = .ok (.int .i64 ((min 64 s.size : Nat) : Int)) (w.setRow b (blkC (fill s.data.toList)).toArray) := by
  have hA : (blkC nought).toArray.size = 64 := by simp [blkC_len, nought_size]
  have hl : ((blkC s).take 64).length = min 64 s.size := by simp [blkC_len]
  have hst := run_storeCells_at Try.prog b 0 77 ((blkC s).take 64) 0 (blkC nought).toArray w h (by rw [hl]; omega) (fun v hv => blkC_one s v (List.mem_of_mem_take hv))
  have hd := Try.infoU8
  cases hq : Try.prog.info? 5 with
  | none => rw [hq] at hd; cases hd
  | some i =>
    have hi : i.size = 1 := by rw [hq] at hd; simpa using hd
    have hu := Try.underlying76
    generalize Try.prog = P at *
    rw [hl] at hst
    have e4 : (blkC nought).toArray.toList.take (0 + 0) ++ (blkC s).take 64 ++ (blkC nought).toArray.toList.drop (0 + 0 + min 64 s.size) = blkC (fill s.data.toList) := by rw [fill_cells]; simp
    rw [e4] at hst
    simp [Builtin.copy_, run_underlying hu, Builtin.lenOf, Builtin.firstCells, sizeOf, typeInfo, hq, goInt]
    have e5 : List.take (s.size.min 64) (List.map (fun b => Value.int IntKind.u8 (b.toNat : Int)) s.data.toList) = (blkC s).take 64 := by
      refine List.take_eq_take_iff.2 ?_
      have : (List.map (fun b => Value.int IntKind.u8 (b.toNat : Int)) s.data.toList).length = s.size := by rw [List.length_map]; exact Array.length_toList
      rw [this]
      show min (min s.size 64) s.size = min 64 s.size
      omega
    have e6 : s.size.min 64 = min 64 s.size := by show min s.size 64 = _; omega
    rw [e5, hst, e6]
    rfl
theorem arr_cell {X : World} {b : Nat} {s : ByteArray} (h : X.heap[b]? = some (.cells (blkC s).toArray 77 (0, 0))) (j : Nat) (hj : j < s.data.toList.length) : X.cell? ((⟨b, 0, none⟩ : Addr).add j) = some (.int .u8 ((s.data.toList[j]).toNat : Int)) := by
  rw [Addr.add_mid, Nat.zero_add, cell_of_row X b j _ _ _ h]
  simp only [List.getElem?_toArray, blkC, List.getElem?_map, List.getElem?_eq_getElem hj, Option.map_some]
theorem conv_arr (X : World) (b : Nat) (s : ByteArray) (hs : s.size = 64) (h : X.heap[b]? = some (.cells (blkC s).toArray 77 (0, 0))) : (convert 76 9 (.slice (some ⟨b, 0, none⟩) 64 64)).run Try.prog X = .ok (.string s) X := by
  have hl : s.data.toList.length = 64 := by rw [Array.length_toList]; exact hs
  have := run_convert_bytes_back (P := Try.prog) X 76 9 5 ⟨b, 0, none⟩ 64 s.data.toList Try.underlying76 Try.underlying5 Try.underlying9 (arr_cell h)
  rw [hl] at this
  rw [this]
set_option maxRecDepth 100000 in
set_option maxHeartbeats 2000000 in
theorem jfilled_any (s : ByteArray) (hs : s.size ≤ 140737488355328) (w : World) :
    Calls Try.prog 85 #[.string s] w fun e w' => e = .returned (.string (fill s.data.toList)) ∧ Below w.heap.size w w' := by
  have HC := hide (fun (W : World) (h : W.heap[w.heap.size]? = some (.cells (blkC nought).toArray 77 (0, 0))) => run_copy_fill W w.heap.size s hs h)
  have HV := hide (fun (W : World) (h : W.heap[w.heap.size]? = some (.cells (blkC (fill s.data.toList)).toArray 77 (0, 0))) => conv_arr W w.heap.size (fill s.data.toList) (fill_size _) h)
  have hsz := hide (fill_size s.data.toList)
  generalize fill s.data.toList = f at *
  go_enter Try.func85, Try.ntmps85
  go_upto_region 2 with fail
  generalize hW : w.alloc _ = W1
  have hb : W1.heap[w.heap.size]? = some (.cells (blkC nought).toArray 77 (0, 0)) := by rw [← hW]; exact heap_alloc_new _ _
  have hbel : Below w.heap.size w W1 := by rw [← hW]; exact bw_alloc _ _
  have hcp := unhide HC W1 hb
  obtain ⟨W2, hW2⟩ : ∃ W2, W2 = W1.setRow w.heap.size (blkC f).toArray := ⟨_, rfl⟩
  rw [← hW2] at hcp
  have hb2 : W2.heap[w.heap.size]? = some (.cells (blkC f).toArray 77 (0, 0)) := by rw [hW2]; exact setRow_heap _ _ _ _ _ _ hb
  have hcv := unhide HV W2 hb2
  have HB : Hid (Below w.heap.size w W2) := by unfold Hid; rw [hW2]; exact below_setRow hbel (Nat.le_refl _) _
  clear hW hb hbel HC HV hb2 hW2
  go_wp2_with fail
  try erw [hcp]
  go_wp2_with fail
  try erw [hcv]
  go_wp2_with fail
  go_ret
  exact ⟨rfl, unhide HB⟩

end Go.Proofs.Ytimhjheigejjmab
