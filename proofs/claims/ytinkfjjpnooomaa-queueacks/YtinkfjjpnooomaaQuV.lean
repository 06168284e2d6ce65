/- What came is told (tell). mkQuV.py writes it. -/
import Derived.Test.YtinkfjjpnooomaaQuR
import Derived.Test.YtinkfjjpnooomaaQuGm
import Derived.Deep.RegionHeld3
namespace Go.Proofs.Ytinkfjjpnooomaa
open Go.RowKit Go.Maps
theorem own_blocks {w w' : World} {B : Nat} {e : TypeId} {c n : Nat} {v : Value} {xs : List Value} (h : w.ownsRow B e c v n xs) (hb : ∀ k, v.ownBlock = some k → w'.heap[k]? = w.heap[k]?) : w'.ownsRow B e c v n xs := by
  refine ⟨h.1, h.2.imp id ?_⟩
  rintro ⟨g, cap, cur, rfl, q0, q1, q2⟩
  exact ⟨g, cap, cur, rfl, q0, by rw [hb g rfl]; exact q1, q2⟩
theorem fr_alloc (w : World) (o : Obj) : Fr [] w (w.alloc o) := (Fr.refl [] w).alloc o
def Rcv (w : World) (rb lb lo : Nat) (tv : Value) : Prop := w.heap[rb]? = some (.cells #[.pointer (some ⟨lb, lo, none⟩), tv] 104 (0, 0))
def Same (w : World) (v v' : Value) : Prop := v'.ownBlock = v.ownBlock ∨ ∃ k, v'.ownBlock = some k ∧ w.heap.size ≤ k
set_option maxRecDepth 100000 in
set_option maxHeartbeats 8000000 in
theorem tell_any {w : World} {rb lb lo B n : Nat} {tv : Value} {ex : Int} {T : List Value} {LC : Array Value} {e : Er} {x : Fx} {eb eo : Nat} (hr : Rcv w rb lb lo tv) (ho : w.ownsRow B 43 53 tv n T) (hn : n ≤ 1048576) (hB : B ≤ w.heap.size)
    (hl : w.heap[lb]? = some (.cells LC 73 (0, 0))) (hx : LC[lo + 3]? = some (.int .i64 ex)) (hx0 : 0 ≤ ex) (hx1 : ex ≤ 1099511627776) (he : w.rangeAt eb eo (erC e x)) (h1 : ∀ u ∈ fdC e.fd x, u.oneCell' = true) (d1 : lb ≠ rb) (d2 : tv.ownBlock ≠ some rb) (d3 : tv.ownBlock ≠ some lb) :
    Calls Try.prog 63 #[.pointer (some ⟨rb, 0, none⟩), .pointer (some ⟨eb, eo, none⟩)] w fun r w' => r = .returned (.tuple #[]) ∧ ∃ tv', Hid (Rcv w' rb lb lo tv' ∧ w'.ownsRow B 43 53 tv' (n + 1) (T ++ fdC e.fd x) ∧ w'.heap[lb]? = some (.cells (LC.setIfInBounds (lo + 3) (.int .i64 (ex + 1))) 73 (0, 0)) ∧ Fr (rb :: lb :: tv.ownBlock.toList) w w' ∧ Same w tv tv') := by
  obtain ⟨j0, hj, hy0, hy1, hyb⟩ := info_parts infoKFeed
  obtain ⟨cs, hcs⟩ : ∃ z, z = fdC e.fd x := ⟨_, rfl⟩
  have hcl : cs.length = 53 := by rw [hcs]; rfl
  rw [← hcs] at h1 ⊢
  obtain ⟨ta, tc, rfl⟩ := own_slice ho
  obtain ⟨W, hW⟩ : ∃ W, W = w.drew := ⟨_, rfl⟩
  have hWh : ∀ k : Nat, W.heap[k]? = w.heap[k]? := fun k => by rw [hW]; rfl
  have hWs : W.heap.size = w.heap.size := by rw [hW]; rfl
  have hWf : Fr [] w W := by rw [hW]; exact (Fr.refl [] w).drew
  have rr : W.heap[rb]? = some (.cells #[.pointer (some ⟨lb, lo, none⟩), .slice ta n tc] 104 (0, 0)) := by rw [hWh]; exact hr
  have x1 : W.cell? ⟨rb, 1, none⟩ = some (.slice ta n tc) := blk_c rr rfl
  have y1 : ∀ o, (W.alloc o).cell? ⟨rb, 1, none⟩ = some (.slice ta n tc) := fun o => by rw [(bwA W o).cell (lt_of_cell x1)]; exact x1
  have oW : W.ownsRow B 43 53 (.slice ta n tc) n T := own_blocks ho (fun k _ => hWh k)
  have RNG : Hid (W.rangeAt eb (eo + 1) cs) := by
    intro j u hu
    have := he (1 + j) u (by rw [hcs] at hu; exact erC_feed e x j u hu)
    rw [← Nat.add_assoc] at this
    rw [World.cell?_of_block (w := w) (hWh _)]; exact this
  have HI : Hid ((Try.prog.info? 43).map (·.size) = some cs.length) := by rw [hcl]; exact infoFdS3
  have HFIN : Hid (∀ v5 w5, w5.ownsRow B 43 53 v5 (n + 1) (T ++ cs) → (W.alloc (.cells cs.toArray 43)).grownBy w5 (Value.slice ta n tc).ownBlock → (v5.ownBlock = (Value.slice ta n tc).ownBlock ∨ v5.ownBlock = some (W.alloc (.cells cs.toArray 43)).heap.size) →
      (w5.cell? ⟨rb, 1, none⟩ = some (.slice ta n tc) ∧ w5.frozen? ⟨rb, 1, none⟩ = false) ∧ Hid ((w5.setCell ⟨rb, 1, none⟩ v5).cell? ⟨rb, 0, none⟩ = some (.pointer (some ⟨lb, lo, none⟩)) ∧ (w5.setCell ⟨rb, 1, none⟩ v5).cell? ⟨lb, lo + 3, none⟩ = some (.int .i64 ex) ∧ (w5.setCell ⟨rb, 1, none⟩ v5).frozen? ⟨lb, lo + 3, none⟩ = false ∧
        Hid (Rcv ((w5.setCell ⟨rb, 1, none⟩ v5).setCell ⟨lb, lo + 3, none⟩ (.int .i64 (ex + 1))) rb lb lo v5 ∧ ((w5.setCell ⟨rb, 1, none⟩ v5).setCell ⟨lb, lo + 3, none⟩ (.int .i64 (ex + 1))).ownsRow B 43 53 v5 (n + 1) (T ++ cs) ∧ ((w5.setCell ⟨rb, 1, none⟩ v5).setCell ⟨lb, lo + 3, none⟩ (.int .i64 (ex + 1))).heap[lb]? = some (.cells (LC.setIfInBounds (lo + 3) (.int .i64 (ex + 1))) 73 (0, 0)) ∧
          Fr (rb :: lb :: (Value.slice ta n tc).ownBlock.toList) w ((w5.setCell ⟨rb, 1, none⟩ v5).setCell ⟨lb, lo + 3, none⟩ (.int .i64 (ex + 1))) ∧ Same w (.slice ta n tc) v5))) := fun v5 w5 hr5 hg5 hv5 => by
    have hbs : (W.alloc (.cells cs.toArray 43)).heap.size = w.heap.size + 1 := by simp [hWs]
    have lr : rb < w.heap.size := lt_of_blk hr
    have ll : lb < w.heap.size := lt_of_blk hl
    have fb : Fr [] w (W.alloc (.cells cs.toArray 43)) := hWf.trans (fr_alloc W (.cells cs.toArray 43)) (fun _ _ q => by cases q) (fun _ _ q => by cases q)
    have f5 : Fr (Value.slice ta n tc).ownBlock.toList w w5 := fb.trans (Fr.ofGrown hg5) (fun _ _ q => by cases q) (fun _ _ q => q)
    have k5 : ∀ k : Nat, k < w.heap.size → (Value.slice ta n tc).ownBlock ≠ some k → w5.heap[k]? = w.heap[k]? := fun k hk hne => f5.block k hk (by simpa using hne)
    have r5 : w5.heap[rb]? = some (.cells #[.pointer (some ⟨lb, lo, none⟩), .slice ta n tc] 104 (0, 0)) := by rw [k5 rb lr d2]; exact hr
    have l5 : w5.heap[lb]? = some (.cells LC 73 (0, 0)) := by rw [k5 lb ll d3]; exact hl
    have r6 : (w5.setCell ⟨rb, 1, none⟩ v5).heap[rb]? = some (.cells #[.pointer (some ⟨lb, lo, none⟩), v5] 104 (0, 0)) := by simpa using poke_b (i := 1) r5 v5
    have l6 : (w5.setCell ⟨rb, 1, none⟩ v5).heap[lb]? = some (.cells LC 73 (0, 0)) := by rw [other_c d1]; exact l5
    have sv : Same w (.slice ta n tc) v5 := hv5.imp id (fun q => ⟨_, q, by rw [hbs]; omega⟩)
    have nb : ∀ k : Nat, v5.ownBlock = some k → k ≠ rb ∧ k ≠ lb := fun k hk => by
      rcases hv5 with q | q
      · rw [q] at hk
        exact ⟨fun c => d2 (by rw [← c]; exact hk), fun c => d3 (by rw [← c]; exact hk)⟩
      · rw [q, hbs] at hk
        simp only [Option.some.injEq] at hk
        omega
    refine ⟨⟨blk_c r5 rfl, froz_b' r5⟩, blk_c r6 rfl, blk_c l6 hx, froz_b' l6, ?_, ?_, poke_b l6 _, ?_, sv⟩
    · unfold Rcv; rw [other_c (Ne.symm d1)]; exact r6
    · exact own_blocks (own_blocks hr5 (fun k hk => other_c (nb k hk).1)) (fun k hk => other_c (nb k hk).2)
    · exact ((f5.mono (fun z _ hz => by simp only [List.mem_cons]; exact Or.inr (Or.inr hz))).setCell (Or.inr (by simp)) _).setCell (Or.inr (by simp)) _
  have HWD := hide hW
  have HOW := hide oW
  have HB : Hid (B ≤ W.heap.size) := by rw [hWs]; exact hB
  have hnI : n + 1 ≤ maxLen ∧ (n + 1) * 600 ≤ 140737488355328 := by unfold maxLen; omega
  have HN := hide hnI
  have HCL := hide hcl
  have H1 := hide h1
  clear hr ho hn hB hl hx he h1 hcs hWh hWs hWf rr oW hW d1 d2 d3 hnI hcl
  go_enter Try.func63, Try.ntmps63
  go_upto_region 0 with fail
  refine wp_region_any (by kernel_rfl) ?_
  change wpAny _ _ _ _ _ _ _ (World.drew _)
  rw [← unhide HWD]
  refine wpAny_take (i := 0) (oi := { dst := some 4, op := Op.move (Operand.tmp 0), type := 139, pos := "early.go:43", after := #[], guard := none }) (v := .pointer (some ⟨rb, 0, none⟩)) rfl (by kernel_rfl) (by kernel_rfl) (by kernel_rfl) (fun _ _ _ h => h) (Or.inl ⟨by rfl, fun w => by go_simp⟩) ?_
  try simp only [Act.put, List.setIfInBounds_toArray, List.set_cons_zero, List.set_cons_succ]
  refine wpAny_take (i := 1) (oi := { dst := some 5, op := Op.move (Operand.tmp 0), type := 139, pos := "early.go:43", after := #[], guard := none }) (v := .pointer (some ⟨rb, 0, none⟩)) rfl (by kernel_rfl) (by kernel_rfl) (by kernel_rfl) (fun _ _ _ h => h) (Or.inl ⟨by rfl, fun w => by go_simp⟩) ?_
  try simp only [Act.put, List.setIfInBounds_toArray, List.set_cons_zero, List.set_cons_succ]
  refine wpAny_take (i := 5) (oi := { dst := some 9, op := Op.move (Operand.tmp 1), type := 102, pos := "early.go:43", after := #[], guard := none }) (v := .pointer (some ⟨eb, eo, none⟩)) rfl (by kernel_rfl) (by kernel_rfl) (by kernel_rfl) (fun _ _ _ h => h) (Or.inl ⟨by rfl, fun w => by go_simp⟩) ?_
  try simp only [Act.put, List.setIfInBounds_toArray, List.set_cons_zero, List.set_cons_succ]
  refine wpAny_take (i := 2) (oi := { dst := some 6, op := Op.nilCheck (Operand.tmp 5), type := 0, pos := "early.go:43", after := #[{ on := 1, ground := Ground.data }], guard := none }) (v := .pointer (some ⟨rb, 0, none⟩)) rfl (by kernel_rfl) (by kernel_rfl) (by kernel_rfl) (fun _ _ _ h => h) (Or.inl ⟨by rfl, fun w => by go_simp⟩) ?_
  try simp only [Act.put, List.setIfInBounds_toArray, List.set_cons_zero, List.set_cons_succ]
  refine wpAny_take (i := 6) (oi := { dst := some 10, op := Op.nilCheck (Operand.tmp 9), type := 0, pos := "early.go:43", after := #[{ on := 5, ground := Ground.data }], guard := none }) (v := .pointer (some ⟨eb, eo, none⟩)) rfl (by kernel_rfl) (by kernel_rfl) (by kernel_rfl) (fun _ _ _ h => h) (Or.inl ⟨by rfl, fun w => by go_simp⟩) ?_
  try simp only [Act.put, List.setIfInBounds_toArray, List.set_cons_zero, List.set_cons_succ]
  refine wpAny_take (i := 3) (oi := { dst := some 7, op := Op.fieldAddr 104 (Operand.tmp 6) 1, type := 0, pos := "early.go:43", after := #[{ on := 2, ground := Ground.data }], guard := none }) (v := .pointer (some ⟨rb, 1, none⟩)) rfl (by kernel_rfl) (by kernel_rfl) (by kernel_rfl) (fun _ _ _ h => h) (Or.inl ⟨by rfl, fun w => by go_simp⟩) ?_
  try simp only [Act.put, List.setIfInBounds_toArray, List.set_cons_zero, List.set_cons_succ]
  refine wpAny_take (i := 7) (oi := { dst := some 11, op := Op.fieldAddr 87 (Operand.tmp 10) 1, type := 0, pos := "early.go:43", after := #[{ on := 6, ground := Ground.data }], guard := none }) (v := .pointer (some ⟨eb, eo + 1, none⟩)) rfl (by kernel_rfl) (by kernel_rfl) (by kernel_rfl) (fun _ _ _ h => h) (Or.inl ⟨by rfl, fun w => by go_simp⟩) ?_
  try simp only [Act.put, List.setIfInBounds_toArray, List.set_cons_zero, List.set_cons_succ]
  refine wpAny_ready (rs := [4, 8]) (by kernel_rfl) (by simp) (AllReady.cons (o := { dst := some 8, op := Op.load 52 (Operand.tmp 7), type := 52, pos := "early.go:43", after := #[{ on := 3, ground := Ground.data }], guard := none }) rfl (fun K hK => ?_) (AllReady.cons (o := { dst := some 12, op := Op.load 43 (Operand.tmp 11), type := 43, pos := "early.go:43", after := #[{ on := 7, ground := Ground.data }], guard := none }) rfl (fun K hK => ?_) AllReady.nil))
  · go_simp
    refine hK _ _ ?_
    clear hK K
    try simp only [Act.put, List.setIfInBounds_toArray, List.set_cons_zero, List.set_cons_succ]
    refine wpAny_ready (rs := [8]) (by kernel_rfl) (by simp) (AllReady.cons (o := { dst := some 12, op := Op.load 43 (Operand.tmp 11), type := 43, pos := "early.go:43", after := #[{ on := 7, ground := Ground.data }], guard := none }) rfl (fun K hK => ?_) AllReady.nil)
    refine step_loadQ rfl 43 (.tmp 11) rfl eb (eo + 1) (by first | rfl | simp [Act.eval, Act.put]) cs _ (unhide RNG) Try.underlying43 rfl (unhide HI) ?_
    refine hK _ _ ?_
    clear hK K
    try simp only [Act.put, List.setIfInBounds_toArray, List.set_cons_zero, List.set_cons_succ]
    refine wpAny_ready (rs := [9]) (by kernel_rfl) (by simp) (AllReady.cons (o := { dst := some 13, op := Op.buildSlice 52 1 #[(0, Operand.tmp 12)], type := 52, pos := "early.go:43", after := #[{ on := 8, ground := Ground.data }], guard := none }) rfl (fun K hK => ?_) AllReady.nil)
    refine step_buildM rfl 52 43 (.tmp 12) rfl cs (by first | rfl | simp [Act.eval, Act.put]) j0 (.agg fd0) Try.underlying52 hj hy0 (by rw [unhide HCL]; exact hy1) (by rw [unhide HCL]; decide) (by rw [unhide HCL]; decide) ?_
    refine hK _ _ ?_
    clear hK K
    try simp only [Act.put, List.setIfInBounds_toArray, List.set_cons_zero, List.set_cons_succ]
    refine wpAny_ready (rs := [10]) (by kernel_rfl) (by simp) (AllReady.cons (o := { dst := some 14, op := Op.call { callee := Callee.builtin Builtin.append, args := #[Operand.tmp 8, Operand.tmp 13], argTypes := #[52, 52] }, type := 52, pos := "early.go:43", after := #[{ on := 4, ground := Ground.data }, { on := 9, ground := Ground.data }], guard := none }) rfl (fun K hK => ?_) AllReady.nil)
    refine step_appM rfl (.tmp 8) (.tmp 13) 52 rfl B 43 j0 (.agg fd0) 53 600 Try.underlying52 hj hy0 hy1 hyb rfl (by decide) (.slice ta n tc) n T (by first | rfl | simp [Act.eval, Act.put]) (World.ownsRow.alloc (unhide HOW) _) ⟨W.heap.size, 0, none⟩ 1 1 cs (by first | rfl | simp [Act.eval, Act.put]) (by rw [unhide HCL]) (cells_newM W cs 43) (unhide H1) (unhide HN).1 (unhide HN).2 (by have := unhide HB; simp; omega) ?_
    intro v5 w5 hr5 hg5 hv5
    obtain ⟨⟨z1, fz⟩, HFF⟩ := unhide HFIN v5 w5 hr5 hg5 hv5
    obtain ⟨a5_, c5_, rfl⟩ := own_slice hr5
    clear hr5 hg5 hv5 HFIN x1 y1
    refine hK _ _ ?_
    clear hK K
    try simp only [Act.put, List.setIfInBounds_toArray, List.set_cons_zero, List.set_cons_succ]
    refine wpAny_take (i := 11) (oi := { dst := some 15, op := Op.nilCheck (Operand.tmp 4), type := 0, pos := "early.go:43", after := #[{ on := 0, ground := Ground.data }, { on := 0, ground := Ground.phase }, { on := 1, ground := Ground.phase }, { on := 2, ground := Ground.phase }, { on := 3, ground := Ground.phase }, { on := 4, ground := Ground.phase }, { on := 5, ground := Ground.phase }, { on := 6, ground := Ground.phase }, { on := 7, ground := Ground.phase }, { on := 8, ground := Ground.phase }, { on := 9, ground := Ground.phase }, { on := 10, ground := Ground.phase }], guard := none }) (v := .pointer (some ⟨rb, 0, none⟩)) rfl (by kernel_rfl) (by kernel_rfl) (by kernel_rfl) (fun _ _ _ h => h) (Or.inl ⟨by rfl, fun w => by go_simp⟩) ?_
    try simp only [Act.put, List.setIfInBounds_toArray, List.set_cons_zero, List.set_cons_succ]
    refine wpAny_take (i := 12) (oi := { dst := some 16, op := Op.fieldAddr 104 (Operand.tmp 15) 1, type := 0, pos := "early.go:43", after := #[{ on := 11, ground := Ground.data }, { on := 0, ground := Ground.phase }, { on := 1, ground := Ground.phase }, { on := 2, ground := Ground.phase }, { on := 3, ground := Ground.phase }, { on := 4, ground := Ground.phase }, { on := 5, ground := Ground.phase }, { on := 6, ground := Ground.phase }, { on := 7, ground := Ground.phase }, { on := 8, ground := Ground.phase }, { on := 9, ground := Ground.phase }, { on := 10, ground := Ground.phase }], guard := none }) (v := .pointer (some ⟨rb, 1, none⟩)) rfl (by kernel_rfl) (by kernel_rfl) (by kernel_rfl) (fun _ _ _ h => h) (Or.inl ⟨by rfl, fun w => by go_simp⟩) ?_
    try simp only [Act.put, List.setIfInBounds_toArray, List.set_cons_zero, List.set_cons_succ]
    refine wpAny_ready (rs := [13]) (by kernel_rfl) (by simp) (AllReady.cons (o := { dst := none, op := Op.store 52 (Operand.tmp 16) (Operand.tmp 14), type := 0, pos := "early.go:43", after := #[{ on := 12, ground := Ground.data }, { on := 10, ground := Ground.data }, { on := 10, ground := Ground.chain }, { on := 0, ground := Ground.phase }, { on := 1, ground := Ground.phase }, { on := 2, ground := Ground.phase }, { on := 3, ground := Ground.phase }, { on := 4, ground := Ground.phase }, { on := 5, ground := Ground.phase }, { on := 6, ground := Ground.phase }, { on := 7, ground := Ground.phase }, { on := 8, ground := Ground.phase }, { on := 9, ground := Ground.phase }, { on := 10, ground := Ground.phase }], guard := none }) rfl (fun K hK => ?_) AllReady.nil)
    go_simp
    refine hK _ _ ?_
    clear hK K
    try simp only [Act.put]
    refine wpAny_done (by kernel_rfl) ?_ _
    generalize hV : w5.setCell ⟨rb, 1, none⟩ (.slice a5_ (n + 1) c5_) = V at HFF ⊢
    obtain ⟨u0, u1, uf, HZ⟩ := unhide HFF
    clear z1 fz HFF RNG HI HOW HB HN HCL H1 HWD hV
    go_wp2_with fail
    go_end0
    exact ⟨rfl, _, HZ⟩
  · refine step_loadQ rfl 43 (.tmp 11) rfl eb (eo + 1) (by first | rfl | simp [Act.eval, Act.put]) cs _ (unhide RNG) Try.underlying43 rfl (unhide HI) ?_
    refine hK _ _ ?_
    clear hK K
    try simp only [Act.put, List.setIfInBounds_toArray, List.set_cons_zero, List.set_cons_succ]
    refine wpAny_ready (rs := [4, 9]) (by kernel_rfl) (by simp) (AllReady.cons (o := { dst := some 8, op := Op.load 52 (Operand.tmp 7), type := 52, pos := "early.go:43", after := #[{ on := 3, ground := Ground.data }], guard := none }) rfl (fun K hK => ?_) (AllReady.cons (o := { dst := some 13, op := Op.buildSlice 52 1 #[(0, Operand.tmp 12)], type := 52, pos := "early.go:43", after := #[{ on := 8, ground := Ground.data }], guard := none }) rfl (fun K hK => ?_) AllReady.nil))
    · go_simp
      refine hK _ _ ?_
      clear hK K
      try simp only [Act.put, List.setIfInBounds_toArray, List.set_cons_zero, List.set_cons_succ]
      refine wpAny_ready (rs := [9]) (by kernel_rfl) (by simp) (AllReady.cons (o := { dst := some 13, op := Op.buildSlice 52 1 #[(0, Operand.tmp 12)], type := 52, pos := "early.go:43", after := #[{ on := 8, ground := Ground.data }], guard := none }) rfl (fun K hK => ?_) AllReady.nil)
      refine step_buildM rfl 52 43 (.tmp 12) rfl cs (by first | rfl | simp [Act.eval, Act.put]) j0 (.agg fd0) Try.underlying52 hj hy0 (by rw [unhide HCL]; exact hy1) (by rw [unhide HCL]; decide) (by rw [unhide HCL]; decide) ?_
      refine hK _ _ ?_
      clear hK K
      try simp only [Act.put, List.setIfInBounds_toArray, List.set_cons_zero, List.set_cons_succ]
      refine wpAny_ready (rs := [10]) (by kernel_rfl) (by simp) (AllReady.cons (o := { dst := some 14, op := Op.call { callee := Callee.builtin Builtin.append, args := #[Operand.tmp 8, Operand.tmp 13], argTypes := #[52, 52] }, type := 52, pos := "early.go:43", after := #[{ on := 4, ground := Ground.data }, { on := 9, ground := Ground.data }], guard := none }) rfl (fun K hK => ?_) AllReady.nil)
      refine step_appM rfl (.tmp 8) (.tmp 13) 52 rfl B 43 j0 (.agg fd0) 53 600 Try.underlying52 hj hy0 hy1 hyb rfl (by decide) (.slice ta n tc) n T (by first | rfl | simp [Act.eval, Act.put]) (World.ownsRow.alloc (unhide HOW) _) ⟨W.heap.size, 0, none⟩ 1 1 cs (by first | rfl | simp [Act.eval, Act.put]) (by rw [unhide HCL]) (cells_newM W cs 43) (unhide H1) (unhide HN).1 (unhide HN).2 (by have := unhide HB; simp; omega) ?_
      intro v5 w5 hr5 hg5 hv5
      obtain ⟨⟨z1, fz⟩, HFF⟩ := unhide HFIN v5 w5 hr5 hg5 hv5
      obtain ⟨a5_, c5_, rfl⟩ := own_slice hr5
      clear hr5 hg5 hv5 HFIN x1 y1
      refine hK _ _ ?_
      clear hK K
      try simp only [Act.put, List.setIfInBounds_toArray, List.set_cons_zero, List.set_cons_succ]
      refine wpAny_take (i := 11) (oi := { dst := some 15, op := Op.nilCheck (Operand.tmp 4), type := 0, pos := "early.go:43", after := #[{ on := 0, ground := Ground.data }, { on := 0, ground := Ground.phase }, { on := 1, ground := Ground.phase }, { on := 2, ground := Ground.phase }, { on := 3, ground := Ground.phase }, { on := 4, ground := Ground.phase }, { on := 5, ground := Ground.phase }, { on := 6, ground := Ground.phase }, { on := 7, ground := Ground.phase }, { on := 8, ground := Ground.phase }, { on := 9, ground := Ground.phase }, { on := 10, ground := Ground.phase }], guard := none }) (v := .pointer (some ⟨rb, 0, none⟩)) rfl (by kernel_rfl) (by kernel_rfl) (by kernel_rfl) (fun _ _ _ h => h) (Or.inl ⟨by rfl, fun w => by go_simp⟩) ?_
      try simp only [Act.put, List.setIfInBounds_toArray, List.set_cons_zero, List.set_cons_succ]
      refine wpAny_take (i := 12) (oi := { dst := some 16, op := Op.fieldAddr 104 (Operand.tmp 15) 1, type := 0, pos := "early.go:43", after := #[{ on := 11, ground := Ground.data }, { on := 0, ground := Ground.phase }, { on := 1, ground := Ground.phase }, { on := 2, ground := Ground.phase }, { on := 3, ground := Ground.phase }, { on := 4, ground := Ground.phase }, { on := 5, ground := Ground.phase }, { on := 6, ground := Ground.phase }, { on := 7, ground := Ground.phase }, { on := 8, ground := Ground.phase }, { on := 9, ground := Ground.phase }, { on := 10, ground := Ground.phase }], guard := none }) (v := .pointer (some ⟨rb, 1, none⟩)) rfl (by kernel_rfl) (by kernel_rfl) (by kernel_rfl) (fun _ _ _ h => h) (Or.inl ⟨by rfl, fun w => by go_simp⟩) ?_
      try simp only [Act.put, List.setIfInBounds_toArray, List.set_cons_zero, List.set_cons_succ]
      refine wpAny_ready (rs := [13]) (by kernel_rfl) (by simp) (AllReady.cons (o := { dst := none, op := Op.store 52 (Operand.tmp 16) (Operand.tmp 14), type := 0, pos := "early.go:43", after := #[{ on := 12, ground := Ground.data }, { on := 10, ground := Ground.data }, { on := 10, ground := Ground.chain }, { on := 0, ground := Ground.phase }, { on := 1, ground := Ground.phase }, { on := 2, ground := Ground.phase }, { on := 3, ground := Ground.phase }, { on := 4, ground := Ground.phase }, { on := 5, ground := Ground.phase }, { on := 6, ground := Ground.phase }, { on := 7, ground := Ground.phase }, { on := 8, ground := Ground.phase }, { on := 9, ground := Ground.phase }, { on := 10, ground := Ground.phase }], guard := none }) rfl (fun K hK => ?_) AllReady.nil)
      go_simp
      refine hK _ _ ?_
      clear hK K
      try simp only [Act.put]
      refine wpAny_done (by kernel_rfl) ?_ _
      generalize hV : w5.setCell ⟨rb, 1, none⟩ (.slice a5_ (n + 1) c5_) = V at HFF ⊢
      obtain ⟨u0, u1, uf, HZ⟩ := unhide HFF
      clear z1 fz HFF RNG HI HOW HB HN HCL H1 HWD hV
      go_wp2_with fail
      go_end0
      exact ⟨rfl, _, HZ⟩
    · refine step_buildM rfl 52 43 (.tmp 12) rfl cs (by first | rfl | simp [Act.eval, Act.put]) j0 (.agg fd0) Try.underlying52 hj hy0 (by rw [unhide HCL]; exact hy1) (by rw [unhide HCL]; decide) (by rw [unhide HCL]; decide) ?_
      refine hK _ _ ?_
      clear hK K
      try simp only [Act.put, List.setIfInBounds_toArray, List.set_cons_zero, List.set_cons_succ]
      refine wpAny_ready (rs := [4]) (by kernel_rfl) (by simp) (AllReady.cons (o := { dst := some 8, op := Op.load 52 (Operand.tmp 7), type := 52, pos := "early.go:43", after := #[{ on := 3, ground := Ground.data }], guard := none }) rfl (fun K hK => ?_) AllReady.nil)
      go_simp
      refine hK _ _ ?_
      clear hK K
      try simp only [Act.put, List.setIfInBounds_toArray, List.set_cons_zero, List.set_cons_succ]
      refine wpAny_ready (rs := [10]) (by kernel_rfl) (by simp) (AllReady.cons (o := { dst := some 14, op := Op.call { callee := Callee.builtin Builtin.append, args := #[Operand.tmp 8, Operand.tmp 13], argTypes := #[52, 52] }, type := 52, pos := "early.go:43", after := #[{ on := 4, ground := Ground.data }, { on := 9, ground := Ground.data }], guard := none }) rfl (fun K hK => ?_) AllReady.nil)
      refine step_appM rfl (.tmp 8) (.tmp 13) 52 rfl B 43 j0 (.agg fd0) 53 600 Try.underlying52 hj hy0 hy1 hyb rfl (by decide) (.slice ta n tc) n T (by first | rfl | simp [Act.eval, Act.put]) (World.ownsRow.alloc (unhide HOW) _) ⟨W.heap.size, 0, none⟩ 1 1 cs (by first | rfl | simp [Act.eval, Act.put]) (by rw [unhide HCL]) (cells_newM W cs 43) (unhide H1) (unhide HN).1 (unhide HN).2 (by have := unhide HB; simp; omega) ?_
      intro v5 w5 hr5 hg5 hv5
      obtain ⟨⟨z1, fz⟩, HFF⟩ := unhide HFIN v5 w5 hr5 hg5 hv5
      obtain ⟨a5_, c5_, rfl⟩ := own_slice hr5
      clear hr5 hg5 hv5 HFIN x1 y1
      refine hK _ _ ?_
      clear hK K
      try simp only [Act.put, List.setIfInBounds_toArray, List.set_cons_zero, List.set_cons_succ]
      refine wpAny_take (i := 11) (oi := { dst := some 15, op := Op.nilCheck (Operand.tmp 4), type := 0, pos := "early.go:43", after := #[{ on := 0, ground := Ground.data }, { on := 0, ground := Ground.phase }, { on := 1, ground := Ground.phase }, { on := 2, ground := Ground.phase }, { on := 3, ground := Ground.phase }, { on := 4, ground := Ground.phase }, { on := 5, ground := Ground.phase }, { on := 6, ground := Ground.phase }, { on := 7, ground := Ground.phase }, { on := 8, ground := Ground.phase }, { on := 9, ground := Ground.phase }, { on := 10, ground := Ground.phase }], guard := none }) (v := .pointer (some ⟨rb, 0, none⟩)) rfl (by kernel_rfl) (by kernel_rfl) (by kernel_rfl) (fun _ _ _ h => h) (Or.inl ⟨by rfl, fun w => by go_simp⟩) ?_
      try simp only [Act.put, List.setIfInBounds_toArray, List.set_cons_zero, List.set_cons_succ]
      refine wpAny_take (i := 12) (oi := { dst := some 16, op := Op.fieldAddr 104 (Operand.tmp 15) 1, type := 0, pos := "early.go:43", after := #[{ on := 11, ground := Ground.data }, { on := 0, ground := Ground.phase }, { on := 1, ground := Ground.phase }, { on := 2, ground := Ground.phase }, { on := 3, ground := Ground.phase }, { on := 4, ground := Ground.phase }, { on := 5, ground := Ground.phase }, { on := 6, ground := Ground.phase }, { on := 7, ground := Ground.phase }, { on := 8, ground := Ground.phase }, { on := 9, ground := Ground.phase }, { on := 10, ground := Ground.phase }], guard := none }) (v := .pointer (some ⟨rb, 1, none⟩)) rfl (by kernel_rfl) (by kernel_rfl) (by kernel_rfl) (fun _ _ _ h => h) (Or.inl ⟨by rfl, fun w => by go_simp⟩) ?_
      try simp only [Act.put, List.setIfInBounds_toArray, List.set_cons_zero, List.set_cons_succ]
      refine wpAny_ready (rs := [13]) (by kernel_rfl) (by simp) (AllReady.cons (o := { dst := none, op := Op.store 52 (Operand.tmp 16) (Operand.tmp 14), type := 0, pos := "early.go:43", after := #[{ on := 12, ground := Ground.data }, { on := 10, ground := Ground.data }, { on := 10, ground := Ground.chain }, { on := 0, ground := Ground.phase }, { on := 1, ground := Ground.phase }, { on := 2, ground := Ground.phase }, { on := 3, ground := Ground.phase }, { on := 4, ground := Ground.phase }, { on := 5, ground := Ground.phase }, { on := 6, ground := Ground.phase }, { on := 7, ground := Ground.phase }, { on := 8, ground := Ground.phase }, { on := 9, ground := Ground.phase }, { on := 10, ground := Ground.phase }], guard := none }) rfl (fun K hK => ?_) AllReady.nil)
      go_simp
      refine hK _ _ ?_
      clear hK K
      try simp only [Act.put]
      refine wpAny_done (by kernel_rfl) ?_ _
      generalize hV : w5.setCell ⟨rb, 1, none⟩ (.slice a5_ (n + 1) c5_) = V at HFF ⊢
      obtain ⟨u0, u1, uf, HZ⟩ := unhide HFF
      clear z1 fz HFF RNG HI HOW HB HN HCL H1 HWD hV
      go_wp2_with fail
      go_end0
      exact ⟨rfl, _, HZ⟩
end Go.Proofs.Ytinkfjjpnooomaa
