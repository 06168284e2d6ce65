/- Contract of torn of package disk. -/
import Derived.Test.YtimhjheigejjmabDkB
import Derived.Laws.CopyRow
namespace Go.Proofs.Ytimhjheigejjmab
open Go.RowKit Go.Maps

theorem infoRow {B : Array Value} (h : B.size = 64) : (Try.prog.info? 78).map (·.size) = some B.size := by rw [h]; exact Try.infoBlock
theorem three_new (w : World) (A B C : Obj) : (((w.alloc A).alloc B).alloc C).heap[w.heap.size]? = some A ∧ (((w.alloc A).alloc B).alloc C).heap[w.heap.size + 1]? = some B ∧ (((w.alloc A).alloc B).alloc C).heap[w.heap.size + 1 + 1]? = some C ∧ Below w.heap.size w (((w.alloc A).alloc B).alloc C) := by
  have e1 : (w.alloc A).heap.size = w.heap.size + 1 := by simp
  have e2 : ((w.alloc A).alloc B).heap.size = w.heap.size + 2 := by simp
  refine ⟨?_, ?_, ?_, (((Below.refl _ _).alloc (Nat.le_refl _) _).alloc (by omega) _).alloc (by omega) _⟩
  · rw [Below.heap_alloc _ _ _ (by omega), Below.heap_alloc _ _ _ (by omega)]; exact heap_alloc_new _ _
  · rw [Below.heap_alloc _ _ _ (by omega), ← e1]; exact heap_alloc_new _ _
  · rw [show w.heap.size + 1 + 1 = ((w.alloc A).alloc B).heap.size by omega]; exact heap_alloc_new _ _
theorem below_setRow {n : Nat} {w W : World} (h : Below n w W) {g : Nat} (hg : n ≤ g) (c : Array Value) : Below n w (W.setRow g c) :=
  ⟨by simpa using h.os, by simpa using h.tape, by simpa using h.output, by simpa using h.size, fun k hk => by rw [setRow_other _ _ _ _ (by omega)]; exact h.block k hk⟩
theorem copy_half (w : World) (g1 g2 o : Nat) (B O : Array Value) (hB : B.size = 64) (hO : O.size = 64) (ho : o = 0 ∨ o = 32) (h1 : w.heap[g1]? = some (.cells B 78 (0, 0))) (h2 : w.heap[g2]? = some (.cells O 78 (0, 0))) (hO1 : O.all (·.oneCell') = true) (c1 c2 : Nat) :
    (Builtin.copy_ #[76, 76] 3 #[.slice (some ⟨g1, o, none⟩) 32 c1, .slice (some ⟨g2, o, none⟩) 32 c2]).run Try.prog w = .ok (.int .i64 32) (w.setRow g1 (B.toList.take o ++ (O.toList.drop o).take 32 ++ B.toList.drop (o + 32)).toArray) := by
  have hl : ((O.toList.drop o).take 32).length = 32 := by simp; omega
  have := run_copy_row Try.prog w 76 76 3 5 g1 o 32 c1 ⟨g2, o, none⟩ 32 c2 B 78 ((O.toList.drop o).take 32) Try.underlying76 Try.infoU8 h1 (by rw [hl]; rfl) ?_ (by rw [hl]; omega) ?_
  · rw [hl] at this; exact this
  · intro j v hv
    rw [Addr.add_mid, cell_of_row w g2 _ O 78 (0, 0) h2]
    rw [List.getElem?_take] at hv
    split at hv
    · rw [List.getElem?_drop] at hv; simpa using hv
    · cases hv
  · intro v hv
    have := List.mem_of_mem_drop (List.mem_of_mem_take hv)
    exact Array.all_eq_true_iff_forall_mem.1 hO1 v (by simpa using this)

set_option maxRecDepth 100000 in
set_option maxHeartbeats 2000000 in
theorem torn_one (B O : Array Value) (hB : B.size = 64) (hO : O.size = 64) (_hB1 : B.all (·.oneCell') = true) (hO1 : O.all (·.oneCell') = true) (how : Int) (hh : how = 1) (w : World) :
    Calls Try.prog 76 #[.agg B, .agg O, .int .i64 how] w fun e w' => e = .returned (.agg O) ∧ Below w.heap.size w w' := by
  subst hh
  go_enter Try.func76, Try.ntmps76
  go_upto_region 1 with fail
  generalize hW : ((w.alloc (Obj.cells B 78)).alloc (Obj.cells O 78)).alloc _ = W0
  obtain ⟨C, hCs, g2⟩ : ∃ C : Array Value, C.size = 64 ∧ W0.heap[w.heap.size + 1 + 1]? = some (.cells C 78 (0, 0)) := by
    refine ⟨_, ?_, by rw [← hW]; exact (three_new w _ _ _).2.2.1⟩
    rfl
  have g0 : W0.heap[w.heap.size]? = some (.cells B 78 (0, 0)) := by rw [← hW]; exact (three_new w _ _ _).1
  have g1 : W0.heap[w.heap.size + 1]? = some (.cells O 78 (0, 0)) := by rw [← hW]; exact (three_new w _ _ _).2.1
  have gb : Below w.heap.size w W0 := by rw [← hW]; exact (three_new w _ _ _).2.2.2
  clear hW
  have H := hide (And.intro g0 (And.intro g1 (And.intro g2 gb)))
  clear g0 g1 g2 gb
  have k0 := hide (setRow_heap W0 w.heap.size B O 78 (0, 0) (unhide H).1)
  have k2 := hide ((setRow_other W0 w.heap.size (w.heap.size + 1 + 1) O (by omega)).trans (unhide H).2.2.1)
  have kb := hide (below_setRow (unhide H).2.2.2 (Nat.le_refl _) O)
  go_wp2_with (first | refine wpList_load_row rfl 78 (.tmp 4) rfl (w.heap.size + 1) rfl 78 O (0, 0) _ (unhide H).2.1 Try.underlying78 rfl (infoRow hO) ?_ | refine wpList_store_row rfl 78 (.tmp 3) (.tmp 10) rfl w.heap.size O rfl rfl 78 B (unhide H).1 (infoRow hO) (by omega) hO1 ?_ | refine wpList_load_row rfl 78 (.tmp 3) rfl w.heap.size rfl 78 O (0, 0) _ (unhide k0) Try.underlying78 rfl (infoRow hO) ?_ | refine wpList_store_row rfl 78 (.tmp 6) (.tmp 21) rfl (w.heap.size + 1 + 1) O rfl rfl 78 C (unhide k2) (infoRow hO) (by omega) hO1 ?_)
  refine bodyPost_ret (v := .agg O) (results_cell_row Try.results76 _ _ (w.heap.size + 1 + 1) 78 O (0, 0) _ rfl (setRow_heap _ _ _ _ _ _ (unhide k2)) Try.underlying78 rfl (infoRow hO)) rfl ⟨rfl, below_setRow (unhide kb) (by omega) _⟩
set_option maxRecDepth 100000 in
set_option maxHeartbeats 2000000 in
theorem torn_two (B O R : Array Value) (hB : B.size = 64) (hO : O.size = 64) (_hB1 : B.all (·.oneCell') = true) (hO1 : O.all (·.oneCell') = true) (how : Int) (hh : how = 2) (hRe : R = (B.toList.take 0 ++ (O.toList.drop 0).take 32 ++ B.toList.drop (0 + 32)).toArray) (hR : R.size = 64) (hR1 : R.all (·.oneCell') = true) (w : World) :
    Calls Try.prog 76 #[.agg B, .agg O, .int .i64 how] w fun e w' => e = .returned (.agg R) ∧ Below w.heap.size w w' := by
  subst hh
  go_enter Try.func76, Try.ntmps76
  go_upto_region 1 with fail
  generalize hW : ((w.alloc (Obj.cells B 78)).alloc (Obj.cells O 78)).alloc _ = W0
  obtain ⟨C, hCs, g2⟩ : ∃ C : Array Value, C.size = 64 ∧ W0.heap[w.heap.size + 1 + 1]? = some (.cells C 78 (0, 0)) := by
    refine ⟨_, ?_, by rw [← hW]; exact (three_new w _ _ _).2.2.1⟩
    rfl
  have g0 : W0.heap[w.heap.size]? = some (.cells B 78 (0, 0)) := by rw [← hW]; exact (three_new w _ _ _).1
  have g1 : W0.heap[w.heap.size + 1]? = some (.cells O 78 (0, 0)) := by rw [← hW]; exact (three_new w _ _ _).2.1
  have gb : Below w.heap.size w W0 := by rw [← hW]; exact (three_new w _ _ _).2.2.2
  clear hW
  have hcp : ∀ c1 c2, (Builtin.copy_ #[76, 76] 3 #[.slice (some ⟨w.heap.size, 0, none⟩) 32 c1, .slice (some ⟨w.heap.size + 1, 0, none⟩) 32 c2]).run Try.prog W0.drew = .ok (.int .i64 32) (W0.drew.setRow w.heap.size R) := by
    intro c1 c2; rw [hRe]
    exact copy_half W0.drew _ _ 0 B O hB hO (by omega) g0 g1 hO1 c1 c2
  have k0 := setRow_heap W0.drew w.heap.size B R 78 (0, 0) g0
  have k2 := (setRow_other W0.drew w.heap.size (w.heap.size + 1 + 1) R (by omega)).trans g2
  have kb := below_setRow (w := w) (W := W0.drew) ⟨gb.os, gb.tape, gb.output, gb.size, gb.block⟩ (Nat.le_refl w.heap.size) R
  generalize W0.drew.setRow w.heap.size R = W1 at *
  have HK := hide (And.intro k0 (And.intro k2 (And.intro kb hRe)))
  clear k0 k2 kb g0 g1 g2 gb hRe
  go_wp2_with fail
  go_region
  all_goals
    go_wp2_with (first | refine wpList_load_row rfl 78 (.tmp 3) rfl w.heap.size rfl 78 R (0, 0) _ (unhide HK).1 Try.underlying78 rfl (infoRow hR) ?_ | refine wpList_store_row rfl 78 (.tmp 6) (.tmp 21) rfl (w.heap.size + 1 + 1) R rfl rfl 78 C (unhide HK).2.1 (infoRow hR) (by omega) hR1 ?_)
    refine bodyPost_ret (v := .agg R) (results_cell_row Try.results76 _ _ (w.heap.size + 1 + 1) 78 R (0, 0) _ rfl (setRow_heap _ _ _ _ _ _ (unhide HK).2.1) Try.underlying78 rfl (infoRow hR)) rfl ⟨rfl, below_setRow (unhide HK).2.2.1 (by omega) _⟩
set_option maxRecDepth 100000 in
set_option maxHeartbeats 2000000 in
theorem torn_three (B O R : Array Value) (hB : B.size = 64) (hO : O.size = 64) (_hB1 : B.all (·.oneCell') = true) (hO1 : O.all (·.oneCell') = true) (how : Int) (hh : how = 3) (hRe : R = (B.toList.take 32 ++ (O.toList.drop 32).take 32 ++ B.toList.drop (32 + 32)).toArray) (hR : R.size = 64) (hR1 : R.all (·.oneCell') = true) (w : World) :
    Calls Try.prog 76 #[.agg B, .agg O, .int .i64 how] w fun e w' => e = .returned (.agg R) ∧ Below w.heap.size w w' := by
  subst hh
  go_enter Try.func76, Try.ntmps76
  go_upto_region 1 with fail
  generalize hW : ((w.alloc (Obj.cells B 78)).alloc (Obj.cells O 78)).alloc _ = W0
  obtain ⟨C, hCs, g2⟩ : ∃ C : Array Value, C.size = 64 ∧ W0.heap[w.heap.size + 1 + 1]? = some (.cells C 78 (0, 0)) := by
    refine ⟨_, ?_, by rw [← hW]; exact (three_new w _ _ _).2.2.1⟩
    rfl
  have g0 : W0.heap[w.heap.size]? = some (.cells B 78 (0, 0)) := by rw [← hW]; exact (three_new w _ _ _).1
  have g1 : W0.heap[w.heap.size + 1]? = some (.cells O 78 (0, 0)) := by rw [← hW]; exact (three_new w _ _ _).2.1
  have gb : Below w.heap.size w W0 := by rw [← hW]; exact (three_new w _ _ _).2.2.2
  clear hW
  have hcp : ∀ c1 c2, (Builtin.copy_ #[76, 76] 3 #[.slice (some ⟨w.heap.size, 32, none⟩) 32 c1, .slice (some ⟨w.heap.size + 1, 32, none⟩) 32 c2]).run Try.prog W0.drew = .ok (.int .i64 32) (W0.drew.setRow w.heap.size R) := by
    intro c1 c2; rw [hRe]
    exact copy_half W0.drew _ _ 32 B O hB hO (by omega) g0 g1 hO1 c1 c2
  have k0 := setRow_heap W0.drew w.heap.size B R 78 (0, 0) g0
  have k2 := (setRow_other W0.drew w.heap.size (w.heap.size + 1 + 1) R (by omega)).trans g2
  have kb := below_setRow (w := w) (W := W0.drew) ⟨gb.os, gb.tape, gb.output, gb.size, gb.block⟩ (Nat.le_refl w.heap.size) R
  generalize W0.drew.setRow w.heap.size R = W1 at *
  have HK := hide (And.intro k0 (And.intro k2 (And.intro kb hRe)))
  clear k0 k2 kb g0 g1 g2 gb hRe
  go_wp2_with fail
  go_region
  all_goals
    go_wp2_with (first | refine wpList_load_row rfl 78 (.tmp 3) rfl w.heap.size rfl 78 R (0, 0) _ (unhide HK).1 Try.underlying78 rfl (infoRow hR) ?_ | refine wpList_store_row rfl 78 (.tmp 6) (.tmp 21) rfl (w.heap.size + 1 + 1) R rfl rfl 78 C (unhide HK).2.1 (infoRow hR) (by omega) hR1 ?_)
    refine bodyPost_ret (v := .agg R) (results_cell_row Try.results76 _ _ (w.heap.size + 1 + 1) 78 R (0, 0) _ rfl (setRow_heap _ _ _ _ _ _ (unhide HK).2.1) Try.underlying78 rfl (infoRow hR)) rfl ⟨rfl, below_setRow (unhide HK).2.2.1 (by omega) _⟩
set_option maxRecDepth 100000 in
set_option maxHeartbeats 2000000 in
theorem torn_nil (B O : Array Value) (hB : B.size = 64) (_hO : O.size = 64) (hB1 : B.all (·.oneCell') = true) (_hO1 : O.all (·.oneCell') = true) (how : Int) (hh : how ≠ 1 ∧ how ≠ 2 ∧ how ≠ 3) (w : World) :
    Calls Try.prog 76 #[.agg B, .agg O, .int .i64 how] w fun e w' => e = .returned (.agg B) ∧ Below w.heap.size w w' := by
  have z1 : (how == 1) = false := by simpa using hh.1
  have z2 : (how == 2) = false := by simpa using hh.2.1
  have z3 : (how == 3) = false := by simpa using hh.2.2
  have y1 : decide (how = 1) = false := by simpa using hh.1
  have y2 : decide (how = 2) = false := by simpa using hh.2.1
  have y3 : decide (how = 3) = false := by simpa using hh.2.2
  clear hh
  go_enter Try.func76, Try.ntmps76
  go_upto_region 1 with fail
  generalize hW : ((w.alloc (Obj.cells B 78)).alloc (Obj.cells O 78)).alloc _ = W0
  obtain ⟨C, hCs, g2⟩ : ∃ C : Array Value, C.size = 64 ∧ W0.heap[w.heap.size + 1 + 1]? = some (.cells C 78 (0, 0)) := by
    refine ⟨_, ?_, by rw [← hW]; exact (three_new w _ _ _).2.2.1⟩
    rfl
  have g0 : W0.heap[w.heap.size]? = some (.cells B 78 (0, 0)) := by rw [← hW]; exact (three_new w _ _ _).1
  have g1 : W0.heap[w.heap.size + 1]? = some (.cells O 78 (0, 0)) := by rw [← hW]; exact (three_new w _ _ _).2.1
  have gb : Below w.heap.size w W0 := by rw [← hW]; exact (three_new w _ _ _).2.2.2
  clear hW
  have HK := hide (And.intro g0 (And.intro g2 gb))
  clear g0 g1 g2 gb
  go_wp2_with (first | refine wpList_load_row rfl 78 (.tmp 3) rfl w.heap.size rfl 78 B (0, 0) _ (unhide HK).1 Try.underlying78 rfl (infoRow hB) ?_ | refine wpList_store_row rfl 78 (.tmp 6) (.tmp 21) rfl (w.heap.size + 1 + 1) B rfl rfl 78 C (unhide HK).2.1 (infoRow hB) (by omega) hB1 ?_)
  refine bodyPost_ret (v := .agg B) (results_cell_row Try.results76 _ _ (w.heap.size + 1 + 1) 78 B (0, 0) _ rfl (setRow_heap _ _ _ _ _ _ (unhide HK).2.1) Try.underlying78 rfl (infoRow hB)) rfl ⟨rfl, below_setRow (unhide HK).2.2 (by omega) _⟩
theorem blk_one (s : ByteArray) : (blkC s).toArray.all (·.oneCell') = true := all_oneCell_toArray (blkC_one s)
theorem blk_sz {s : ByteArray} (h : s.size = 64) : (blkC s).toArray.size = 64 := by simp [blkC_len, h]
theorem torn_any (b s : ByteArray) (how : Int) (hb : b.size = 64) (hs : s.size = 64) (w : World) :
    Calls Try.prog 76 #[blkV b, blkV s, .int .i64 how] w fun e w' => e = .returned (blkV (torn b s how)) ∧ Below w.heap.size w w' := by
  have hR := blk_sz (torn_size how hb hs)
  have hR1 := blk_one (torn b s how)
  unfold blkV
  by_cases h1 : how = 1
  · rw [show torn b s how = s by simp [torn, h1]]
    exact torn_one _ _ (blk_sz hb) (blk_sz hs) (blk_one b) (blk_one s) how h1 w
  by_cases h2 : how = 2
  · refine torn_two _ _ _ (blk_sz hb) (blk_sz hs) (blk_one b) (blk_one s) how h2 ?_ hR hR1 w
    simp only [torn, h2, show ¬ ((2 : Int) = 1) by decide, if_false, if_true, blkC_app, blkC_ext]
    have : (blkC b).take 64 = blkC b := List.take_of_length_le (by rw [blkC_len]; omega)
    rw [this]; simp
  by_cases h3 : how = 3
  · refine torn_three _ _ _ (blk_sz hb) (blk_sz hs) (blk_one b) (blk_one s) how h3 ?_ hR hR1 w
    simp only [torn, h3, show ¬ ((3 : Int) = 1) by decide, show ¬ ((3 : Int) = 2) by decide, if_false, if_true, blkC_app, blkC_ext]
    have : (blkC s).take 64 = blkC s := List.take_of_length_le (by rw [blkC_len]; omega)
    have h4 : ((blkC s).drop 32).take 32 = (blkC s).drop 32 := List.take_of_length_le (by rw [List.length_drop, blkC_len]; omega)
    have h5 : (blkC b).drop 64 = [] := List.drop_eq_nil_of_le (by rw [blkC_len]; omega)
    rw [this]; simp [h4, h5]
  · rw [show torn b s how = b by simp [torn, h1, h2, h3]]
    exact torn_nil _ _ (blk_sz hb) (blk_sz hs) (blk_one b) (blk_one s) how ⟨h1, h2, h3⟩ w

end Go.Proofs.Ytimhjheigejjmab
