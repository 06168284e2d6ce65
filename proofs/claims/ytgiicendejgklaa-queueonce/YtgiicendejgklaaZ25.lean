/- Texts joined: QuV QuW QuX. -/
import Derived.Test.YtgiicendejgklaaQuR
import Derived.Test.YtgiicendejgklaaQuGm
import Derived.Deep.RegionHeld3
/- What came is told (tell). mkQuV.py writes it. -/
namespace Go.Proofs.Ytgiicendejgklaa
open Go.RowKit Go.Maps
theorem own_blocks {w w' : World} {B : Nat} {e : TypeId} {c n : Nat} {v : Value} {xs : List Value} (h : w.ownsRow B e c v n xs) (hb : ∀ k, v.ownBlock = some k → w'.heap[k]? = w.heap[k]?) : w'.ownsRow B e c v n xs := by
  refine ⟨h.1, h.2.imp id ?_⟩
  rintro ⟨g, cap, cur, rfl, q0, q1, q2⟩
  exact ⟨g, cap, cur, rfl, q0, by rw [hb g rfl]; exact q1, q2⟩
theorem fr_alloc (w : World) (o : Obj) : Fr [] w (w.alloc o) := (Fr.refl [] w).alloc o
def Rcv (w : World) (rb lb lo : Nat) (tv : Value) : Prop := w.heap[rb]? = some (.cells #[.pointer (some ⟨lb, lo, none⟩), tv] 104 (0, 0))
def Same (w : World) (v v' : Value) : Prop := v'.ownBlock = v.ownBlock ∨ ∃ k, v'.ownBlock = some k ∧ w.heap.size ≤ k
set_option maxRecDepth 100000 in
set_option maxHeartbeats 8000000 in
theorem tell_any {w : World} {rb lb lo B n : Nat} {tv : Value} {ex : Int} {T : List Value} {LC : Array Value} {e : Er} {x : Fx} {eb eo : Nat} (hr : Rcv w rb lb lo tv) (ho : w.ownsRow B 43 53 tv n T) (hn : n ≤ 1048576) (hB : B ≤ w.heap.size)
    (hl : w.heap[lb]? = some (.cells LC 73 (0, 0))) (hx : LC[lo + 3]? = some (.int .i64 ex)) (hx0 : 0 ≤ ex) (hx1 : ex ≤ 1099511627776) (he : w.rangeAt eb eo (erC e x)) (h1 : ∀ u ∈ fdC e.fd x, u.oneCell' = true) (d1 : lb ≠ rb) (d2 : tv.ownBlock ≠ some rb) (d3 : tv.ownBlock ≠ some lb) :
    Calls Try.prog 64 #[.pointer (some ⟨rb, 0, none⟩), .pointer (some ⟨eb, eo, none⟩)] w fun r w' => r = .returned (.tuple #[]) ∧ ∃ tv', Hid (Rcv w' rb lb lo tv' ∧ w'.ownsRow B 43 53 tv' (n + 1) (T ++ fdC e.fd x) ∧ w'.heap[lb]? = some (.cells (LC.setIfInBounds (lo + 3) (.int .i64 (ex + 1))) 73 (0, 0)) ∧ Fr (rb :: lb :: tv.ownBlock.toList) w w' ∧ Same w tv tv') := by
  obtain ⟨j0, hj, hy0, hy1, hyb⟩ := info_parts infoKFeed
  obtain ⟨cs, hcs⟩ : ∃ z, z = fdC e.fd x := ⟨_, rfl⟩
  have hcl : cs.length = 53 := by rw [hcs]; rfl
  rw [← hcs] at h1 ⊢
  obtain ⟨ta, tc, rfl⟩ := own_slice ho
  obtain ⟨W, hW⟩ : ∃ W, W = w.drew := ⟨_, rfl⟩
  have hWh : ∀ k : Nat, W.heap[k]? = w.heap[k]? := fun k => by rw [hW]; rfl
  have hWs : W.heap.size = w.heap.size := by rw [hW]; rfl
  have hWf : Fr [] w W := by rw [hW]; exact (Fr.refl [] w).drew
  have rr : W.heap[rb]? = some (.cells #[.pointer (some ⟨lb, lo, none⟩), .slice ta n tc] 104 (0, 0)) := by rw [hWh]; exact hr
  have x1 : W.cell? ⟨rb, 1, none⟩ = some (.slice ta n tc) := blk_c rr rfl
  have y1 : ∀ o, (W.alloc o).cell? ⟨rb, 1, none⟩ = some (.slice ta n tc) := fun o => by rw [(bwA W o).cell (lt_of_cell x1)]; exact x1
  have oW : W.ownsRow B 43 53 (.slice ta n tc) n T := own_blocks ho (fun k _ => hWh k)
  have RNG : Hid (W.rangeAt eb (eo + 1) cs) := by
    intro j u hu
    have := he (1 + j) u (by rw [hcs] at hu; exact erC_feed e x j u hu)
    rw [← Nat.add_assoc] at this
    rw [World.cell?_of_block (w := w) (hWh _)]; exact this
  have HI : Hid ((Try.prog.info? 43).map (·.size) = some cs.length) := by rw [hcl]; exact infoFdS3
  have HFIN : Hid (∀ v5 w5, w5.ownsRow B 43 53 v5 (n + 1) (T ++ cs) → (W.alloc (.cells cs.toArray 43)).grownBy w5 (Value.slice ta n tc).ownBlock → (v5.ownBlock = (Value.slice ta n tc).ownBlock ∨ v5.ownBlock = some (W.alloc (.cells cs.toArray 43)).heap.size) →
      (w5.cell? ⟨rb, 1, none⟩ = some (.slice ta n tc) ∧ w5.frozen? ⟨rb, 1, none⟩ = false) ∧ Hid ((w5.setCell ⟨rb, 1, none⟩ v5).cell? ⟨rb, 0, none⟩ = some (.pointer (some ⟨lb, lo, none⟩)) ∧ (w5.setCell ⟨rb, 1, none⟩ v5).cell? ⟨lb, lo + 3, none⟩ = some (.int .i64 ex) ∧ (w5.setCell ⟨rb, 1, none⟩ v5).frozen? ⟨lb, lo + 3, none⟩ = false ∧
        Hid (Rcv ((w5.setCell ⟨rb, 1, none⟩ v5).setCell ⟨lb, lo + 3, none⟩ (.int .i64 (ex + 1))) rb lb lo v5 ∧ ((w5.setCell ⟨rb, 1, none⟩ v5).setCell ⟨lb, lo + 3, none⟩ (.int .i64 (ex + 1))).ownsRow B 43 53 v5 (n + 1) (T ++ cs) ∧ ((w5.setCell ⟨rb, 1, none⟩ v5).setCell ⟨lb, lo + 3, none⟩ (.int .i64 (ex + 1))).heap[lb]? = some (.cells (LC.setIfInBounds (lo + 3) (.int .i64 (ex + 1))) 73 (0, 0)) ∧
          Fr (rb :: lb :: (Value.slice ta n tc).ownBlock.toList) w ((w5.setCell ⟨rb, 1, none⟩ v5).setCell ⟨lb, lo + 3, none⟩ (.int .i64 (ex + 1))) ∧ Same w (.slice ta n tc) v5))) := fun v5 w5 hr5 hg5 hv5 => by
    have hbs : (W.alloc (.cells cs.toArray 43)).heap.size = w.heap.size + 1 := by simp [hWs]
    have lr : rb < w.heap.size := lt_of_blk hr
    have ll : lb < w.heap.size := lt_of_blk hl
    have fb : Fr [] w (W.alloc (.cells cs.toArray 43)) := hWf.trans (fr_alloc W (.cells cs.toArray 43)) (fun _ _ q => by cases q) (fun _ _ q => by cases q)
    have f5 : Fr (Value.slice ta n tc).ownBlock.toList w w5 := fb.trans (Fr.ofGrown hg5) (fun _ _ q => by cases q) (fun _ _ q => q)
    have k5 : ∀ k : Nat, k < w.heap.size → (Value.slice ta n tc).ownBlock ≠ some k → w5.heap[k]? = w.heap[k]? := fun k hk hne => f5.block k hk (by simpa using hne)
    have r5 : w5.heap[rb]? = some (.cells #[.pointer (some ⟨lb, lo, none⟩), .slice ta n tc] 104 (0, 0)) := by rw [k5 rb lr d2]; exact hr
    have l5 : w5.heap[lb]? = some (.cells LC 73 (0, 0)) := by rw [k5 lb ll d3]; exact hl
    have r6 : (w5.setCell ⟨rb, 1, none⟩ v5).heap[rb]? = some (.cells #[.pointer (some ⟨lb, lo, none⟩), v5] 104 (0, 0)) := by simpa using poke_b (i := 1) r5 v5
    have l6 : (w5.setCell ⟨rb, 1, none⟩ v5).heap[lb]? = some (.cells LC 73 (0, 0)) := by rw [other_c d1]; exact l5
    have sv : Same w (.slice ta n tc) v5 := hv5.imp id (fun q => ⟨_, q, by rw [hbs]; omega⟩)
    have nb : ∀ k : Nat, v5.ownBlock = some k → k ≠ rb ∧ k ≠ lb := fun k hk => by
      rcases hv5 with q | q
      · rw [q] at hk
        exact ⟨fun c => d2 (by rw [← c]; exact hk), fun c => d3 (by rw [← c]; exact hk)⟩
      · rw [q, hbs] at hk
        simp only [Option.some.injEq] at hk
        omega
    refine ⟨⟨blk_c r5 rfl, froz_b' r5⟩, blk_c r6 rfl, blk_c l6 hx, froz_b' l6, ?_, ?_, poke_b l6 _, ?_, sv⟩
    · unfold Rcv; rw [other_c (Ne.symm d1)]; exact r6
    · exact own_blocks (own_blocks hr5 (fun k hk => other_c (nb k hk).1)) (fun k hk => other_c (nb k hk).2)
    · exact ((f5.mono (fun z _ hz => by simp only [List.mem_cons]; exact Or.inr (Or.inr hz))).setCell (Or.inr (by simp)) _).setCell (Or.inr (by simp)) _
  have HWD := hide hW
  have HOW := hide oW
  have HB : Hid (B ≤ W.heap.size) := by rw [hWs]; exact hB
  have hnI : n + 1 ≤ maxLen ∧ (n + 1) * 600 ≤ 140737488355328 := by unfold maxLen; omega
  have HN := hide hnI
  have HCL := hide hcl
  have H1 := hide h1
  clear hr ho hn hB hl hx he h1 hcs hWh hWs hWf rr oW hW d1 d2 d3 hnI hcl
  go_enter Try.func64, Try.ntmps64
  go_upto_region 0 with fail
  refine wp_region_any (by kernel_rfl) ?_
  change wpAny _ _ _ _ _ _ _ (World.drew _)
  rw [← unhide HWD]
  refine wpAny_take (i := 0) (oi := { dst := some 4, op := Op.move (Operand.tmp 0), type := 140, pos := "early.go:43", after := #[], guard := none }) (v := .pointer (some ⟨rb, 0, none⟩)) rfl (by kernel_rfl) (by kernel_rfl) (by kernel_rfl) (fun _ _ _ h => h) (Or.inl ⟨by rfl, fun w => by go_simp⟩) ?_
  try simp only [Act.put, List.setIfInBounds_toArray, List.set_cons_zero, List.set_cons_succ]
  refine wpAny_take (i := 1) (oi := { dst := some 5, op := Op.move (Operand.tmp 0), type := 140, pos := "early.go:43", after := #[], guard := none }) (v := .pointer (some ⟨rb, 0, none⟩)) rfl (by kernel_rfl) (by kernel_rfl) (by kernel_rfl) (fun _ _ _ h => h) (Or.inl ⟨by rfl, fun w => by go_simp⟩) ?_
  try simp only [Act.put, List.setIfInBounds_toArray, List.set_cons_zero, List.set_cons_succ]
  refine wpAny_take (i := 5) (oi := { dst := some 9, op := Op.move (Operand.tmp 1), type := 102, pos := "early.go:43", after := #[], guard := none }) (v := .pointer (some ⟨eb, eo, none⟩)) rfl (by kernel_rfl) (by kernel_rfl) (by kernel_rfl) (fun _ _ _ h => h) (Or.inl ⟨by rfl, fun w => by go_simp⟩) ?_
  try simp only [Act.put, List.setIfInBounds_toArray, List.set_cons_zero, List.set_cons_succ]
  refine wpAny_take (i := 2) (oi := { dst := some 6, op := Op.nilCheck (Operand.tmp 5), type := 0, pos := "early.go:43", after := #[{ on := 1, ground := Ground.data }], guard := none }) (v := .pointer (some ⟨rb, 0, none⟩)) rfl (by kernel_rfl) (by kernel_rfl) (by kernel_rfl) (fun _ _ _ h => h) (Or.inl ⟨by rfl, fun w => by go_simp⟩) ?_
  try simp only [Act.put, List.setIfInBounds_toArray, List.set_cons_zero, List.set_cons_succ]
  refine wpAny_take (i := 6) (oi := { dst := some 10, op := Op.nilCheck (Operand.tmp 9), type := 0, pos := "early.go:43", after := #[{ on := 5, ground := Ground.data }], guard := none }) (v := .pointer (some ⟨eb, eo, none⟩)) rfl (by kernel_rfl) (by kernel_rfl) (by kernel_rfl) (fun _ _ _ h => h) (Or.inl ⟨by rfl, fun w => by go_simp⟩) ?_
  try simp only [Act.put, List.setIfInBounds_toArray, List.set_cons_zero, List.set_cons_succ]
  refine wpAny_take (i := 3) (oi := { dst := some 7, op := Op.fieldAddr 104 (Operand.tmp 6) 1, type := 0, pos := "early.go:43", after := #[{ on := 2, ground := Ground.data }], guard := none }) (v := .pointer (some ⟨rb, 1, none⟩)) rfl (by kernel_rfl) (by kernel_rfl) (by kernel_rfl) (fun _ _ _ h => h) (Or.inl ⟨by rfl, fun w => by go_simp⟩) ?_
  try simp only [Act.put, List.setIfInBounds_toArray, List.set_cons_zero, List.set_cons_succ]
  refine wpAny_take (i := 7) (oi := { dst := some 11, op := Op.fieldAddr 87 (Operand.tmp 10) 1, type := 0, pos := "early.go:43", after := #[{ on := 6, ground := Ground.data }], guard := none }) (v := .pointer (some ⟨eb, eo + 1, none⟩)) rfl (by kernel_rfl) (by kernel_rfl) (by kernel_rfl) (fun _ _ _ h => h) (Or.inl ⟨by rfl, fun w => by go_simp⟩) ?_
  try simp only [Act.put, List.setIfInBounds_toArray, List.set_cons_zero, List.set_cons_succ]
  refine wpAny_ready (rs := [4, 8]) (by kernel_rfl) (by simp) (AllReady.cons (o := { dst := some 8, op := Op.load 52 (Operand.tmp 7), type := 52, pos := "early.go:43", after := #[{ on := 3, ground := Ground.data }], guard := none }) rfl (fun K hK => ?_) (AllReady.cons (o := { dst := some 12, op := Op.load 43 (Operand.tmp 11), type := 43, pos := "early.go:43", after := #[{ on := 7, ground := Ground.data }], guard := none }) rfl (fun K hK => ?_) AllReady.nil))
  · go_simp
    refine hK _ _ ?_
    clear hK K
    try simp only [Act.put, List.setIfInBounds_toArray, List.set_cons_zero, List.set_cons_succ]
    refine wpAny_ready (rs := [8]) (by kernel_rfl) (by simp) (AllReady.cons (o := { dst := some 12, op := Op.load 43 (Operand.tmp 11), type := 43, pos := "early.go:43", after := #[{ on := 7, ground := Ground.data }], guard := none }) rfl (fun K hK => ?_) AllReady.nil)
    refine step_loadQ rfl 43 (.tmp 11) rfl eb (eo + 1) (by first | rfl | simp [Act.eval, Act.put]) cs _ (unhide RNG) Try.underlying43 rfl (unhide HI) ?_
    refine hK _ _ ?_
    clear hK K
    try simp only [Act.put, List.setIfInBounds_toArray, List.set_cons_zero, List.set_cons_succ]
    refine wpAny_ready (rs := [9]) (by kernel_rfl) (by simp) (AllReady.cons (o := { dst := some 13, op := Op.buildSlice 52 1 #[(0, Operand.tmp 12)], type := 52, pos := "early.go:43", after := #[{ on := 8, ground := Ground.data }], guard := none }) rfl (fun K hK => ?_) AllReady.nil)
    refine step_buildM rfl 52 43 (.tmp 12) rfl cs (by first | rfl | simp [Act.eval, Act.put]) j0 (.agg fd0) Try.underlying52 hj hy0 (by rw [unhide HCL]; exact hy1) (by rw [unhide HCL]; decide) (by rw [unhide HCL]; decide) ?_
    refine hK _ _ ?_
    clear hK K
    try simp only [Act.put, List.setIfInBounds_toArray, List.set_cons_zero, List.set_cons_succ]
    refine wpAny_ready (rs := [10]) (by kernel_rfl) (by simp) (AllReady.cons (o := { dst := some 14, op := Op.call { callee := Callee.builtin Builtin.append, args := #[Operand.tmp 8, Operand.tmp 13], argTypes := #[52, 52] }, type := 52, pos := "early.go:43", after := #[{ on := 4, ground := Ground.data }, { on := 9, ground := Ground.data }], guard := none }) rfl (fun K hK => ?_) AllReady.nil)
    refine step_appM rfl (.tmp 8) (.tmp 13) 52 rfl B 43 j0 (.agg fd0) 53 600 Try.underlying52 hj hy0 hy1 hyb rfl (by decide) (.slice ta n tc) n T (by first | rfl | simp [Act.eval, Act.put]) (World.ownsRow.alloc (unhide HOW) _) ⟨W.heap.size, 0, none⟩ 1 1 cs (by first | rfl | simp [Act.eval, Act.put]) (by rw [unhide HCL]) (cells_newM W cs 43) (unhide H1) (unhide HN).1 (unhide HN).2 (by have := unhide HB; simp; omega) ?_
    intro v5 w5 hr5 hg5 hv5
    obtain ⟨⟨z1, fz⟩, HFF⟩ := unhide HFIN v5 w5 hr5 hg5 hv5
    obtain ⟨a5_, c5_, rfl⟩ := own_slice hr5
    clear hr5 hg5 hv5 HFIN x1 y1
    refine hK _ _ ?_
    clear hK K
    try simp only [Act.put, List.setIfInBounds_toArray, List.set_cons_zero, List.set_cons_succ]
    refine wpAny_take (i := 11) (oi := { dst := some 15, op := Op.nilCheck (Operand.tmp 4), type := 0, pos := "early.go:43", after := #[{ on := 0, ground := Ground.data }, { on := 0, ground := Ground.phase }, { on := 1, ground := Ground.phase }, { on := 2, ground := Ground.phase }, { on := 3, ground := Ground.phase }, { on := 4, ground := Ground.phase }, { on := 5, ground := Ground.phase }, { on := 6, ground := Ground.phase }, { on := 7, ground := Ground.phase }, { on := 8, ground := Ground.phase }, { on := 9, ground := Ground.phase }, { on := 10, ground := Ground.phase }], guard := none }) (v := .pointer (some ⟨rb, 0, none⟩)) rfl (by kernel_rfl) (by kernel_rfl) (by kernel_rfl) (fun _ _ _ h => h) (Or.inl ⟨by rfl, fun w => by go_simp⟩) ?_
    try simp only [Act.put, List.setIfInBounds_toArray, List.set_cons_zero, List.set_cons_succ]
    refine wpAny_take (i := 12) (oi := { dst := some 16, op := Op.fieldAddr 104 (Operand.tmp 15) 1, type := 0, pos := "early.go:43", after := #[{ on := 11, ground := Ground.data }, { on := 0, ground := Ground.phase }, { on := 1, ground := Ground.phase }, { on := 2, ground := Ground.phase }, { on := 3, ground := Ground.phase }, { on := 4, ground := Ground.phase }, { on := 5, ground := Ground.phase }, { on := 6, ground := Ground.phase }, { on := 7, ground := Ground.phase }, { on := 8, ground := Ground.phase }, { on := 9, ground := Ground.phase }, { on := 10, ground := Ground.phase }], guard := none }) (v := .pointer (some ⟨rb, 1, none⟩)) rfl (by kernel_rfl) (by kernel_rfl) (by kernel_rfl) (fun _ _ _ h => h) (Or.inl ⟨by rfl, fun w => by go_simp⟩) ?_
    try simp only [Act.put, List.setIfInBounds_toArray, List.set_cons_zero, List.set_cons_succ]
    refine wpAny_ready (rs := [13]) (by kernel_rfl) (by simp) (AllReady.cons (o := { dst := none, op := Op.store 52 (Operand.tmp 16) (Operand.tmp 14), type := 0, pos := "early.go:43", after := #[{ on := 12, ground := Ground.data }, { on := 10, ground := Ground.data }, { on := 10, ground := Ground.chain }, { on := 0, ground := Ground.phase }, { on := 1, ground := Ground.phase }, { on := 2, ground := Ground.phase }, { on := 3, ground := Ground.phase }, { on := 4, ground := Ground.phase }, { on := 5, ground := Ground.phase }, { on := 6, ground := Ground.phase }, { on := 7, ground := Ground.phase }, { on := 8, ground := Ground.phase }, { on := 9, ground := Ground.phase }, { on := 10, ground := Ground.phase }], guard := none }) rfl (fun K hK => ?_) AllReady.nil)
    go_simp
    refine hK _ _ ?_
    clear hK K
    try simp only [Act.put]
    refine wpAny_done (by kernel_rfl) ?_ _
    generalize hV : w5.setCell ⟨rb, 1, none⟩ (.slice a5_ (n + 1) c5_) = V at HFF ⊢
    obtain ⟨u0, u1, uf, HZ⟩ := unhide HFF
    clear z1 fz HFF RNG HI HOW HB HN HCL H1 HWD hV
    go_wp2_with fail
    go_end0
    exact ⟨rfl, _, HZ⟩
  · refine step_loadQ rfl 43 (.tmp 11) rfl eb (eo + 1) (by first | rfl | simp [Act.eval, Act.put]) cs _ (unhide RNG) Try.underlying43 rfl (unhide HI) ?_
    refine hK _ _ ?_
    clear hK K
    try simp only [Act.put, List.setIfInBounds_toArray, List.set_cons_zero, List.set_cons_succ]
    refine wpAny_ready (rs := [4, 9]) (by kernel_rfl) (by simp) (AllReady.cons (o := { dst := some 8, op := Op.load 52 (Operand.tmp 7), type := 52, pos := "early.go:43", after := #[{ on := 3, ground := Ground.data }], guard := none }) rfl (fun K hK => ?_) (AllReady.cons (o := { dst := some 13, op := Op.buildSlice 52 1 #[(0, Operand.tmp 12)], type := 52, pos := "early.go:43", after := #[{ on := 8, ground := Ground.data }], guard := none }) rfl (fun K hK => ?_) AllReady.nil))
    · go_simp
      refine hK _ _ ?_
      clear hK K
      try simp only [Act.put, List.setIfInBounds_toArray, List.set_cons_zero, List.set_cons_succ]
      refine wpAny_ready (rs := [9]) (by kernel_rfl) (by simp) (AllReady.cons (o := { dst := some 13, op := Op.buildSlice 52 1 #[(0, Operand.tmp 12)], type := 52, pos := "early.go:43", after := #[{ on := 8, ground := Ground.data }], guard := none }) rfl (fun K hK => ?_) AllReady.nil)
      refine step_buildM rfl 52 43 (.tmp 12) rfl cs (by first | rfl | simp [Act.eval, Act.put]) j0 (.agg fd0) Try.underlying52 hj hy0 (by rw [unhide HCL]; exact hy1) (by rw [unhide HCL]; decide) (by rw [unhide HCL]; decide) ?_
      refine hK _ _ ?_
      clear hK K
      try simp only [Act.put, List.setIfInBounds_toArray, List.set_cons_zero, List.set_cons_succ]
      refine wpAny_ready (rs := [10]) (by kernel_rfl) (by simp) (AllReady.cons (o := { dst := some 14, op := Op.call { callee := Callee.builtin Builtin.append, args := #[Operand.tmp 8, Operand.tmp 13], argTypes := #[52, 52] }, type := 52, pos := "early.go:43", after := #[{ on := 4, ground := Ground.data }, { on := 9, ground := Ground.data }], guard := none }) rfl (fun K hK => ?_) AllReady.nil)
      refine step_appM rfl (.tmp 8) (.tmp 13) 52 rfl B 43 j0 (.agg fd0) 53 600 Try.underlying52 hj hy0 hy1 hyb rfl (by decide) (.slice ta n tc) n T (by first | rfl | simp [Act.eval, Act.put]) (World.ownsRow.alloc (unhide HOW) _) ⟨W.heap.size, 0, none⟩ 1 1 cs (by first | rfl | simp [Act.eval, Act.put]) (by rw [unhide HCL]) (cells_newM W cs 43) (unhide H1) (unhide HN).1 (unhide HN).2 (by have := unhide HB; simp; omega) ?_
      intro v5 w5 hr5 hg5 hv5
      obtain ⟨⟨z1, fz⟩, HFF⟩ := unhide HFIN v5 w5 hr5 hg5 hv5
      obtain ⟨a5_, c5_, rfl⟩ := own_slice hr5
      clear hr5 hg5 hv5 HFIN x1 y1
      refine hK _ _ ?_
      clear hK K
      try simp only [Act.put, List.setIfInBounds_toArray, List.set_cons_zero, List.set_cons_succ]
      refine wpAny_take (i := 11) (oi := { dst := some 15, op := Op.nilCheck (Operand.tmp 4), type := 0, pos := "early.go:43", after := #[{ on := 0, ground := Ground.data }, { on := 0, ground := Ground.phase }, { on := 1, ground := Ground.phase }, { on := 2, ground := Ground.phase }, { on := 3, ground := Ground.phase }, { on := 4, ground := Ground.phase }, { on := 5, ground := Ground.phase }, { on := 6, ground := Ground.phase }, { on := 7, ground := Ground.phase }, { on := 8, ground := Ground.phase }, { on := 9, ground := Ground.phase }, { on := 10, ground := Ground.phase }], guard := none }) (v := .pointer (some ⟨rb, 0, none⟩)) rfl (by kernel_rfl) (by kernel_rfl) (by kernel_rfl) (fun _ _ _ h => h) (Or.inl ⟨by rfl, fun w => by go_simp⟩) ?_
      try simp only [Act.put, List.setIfInBounds_toArray, List.set_cons_zero, List.set_cons_succ]
      refine wpAny_take (i := 12) (oi := { dst := some 16, op := Op.fieldAddr 104 (Operand.tmp 15) 1, type := 0, pos := "early.go:43", after := #[{ on := 11, ground := Ground.data }, { on := 0, ground := Ground.phase }, { on := 1, ground := Ground.phase }, { on := 2, ground := Ground.phase }, { on := 3, ground := Ground.phase }, { on := 4, ground := Ground.phase }, { on := 5, ground := Ground.phase }, { on := 6, ground := Ground.phase }, { on := 7, ground := Ground.phase }, { on := 8, ground := Ground.phase }, { on := 9, ground := Ground.phase }, { on := 10, ground := Ground.phase }], guard := none }) (v := .pointer (some ⟨rb, 1, none⟩)) rfl (by kernel_rfl) (by kernel_rfl) (by kernel_rfl) (fun _ _ _ h => h) (Or.inl ⟨by rfl, fun w => by go_simp⟩) ?_
      try simp only [Act.put, List.setIfInBounds_toArray, List.set_cons_zero, List.set_cons_succ]
      refine wpAny_ready (rs := [13]) (by kernel_rfl) (by simp) (AllReady.cons (o := { dst := none, op := Op.store 52 (Operand.tmp 16) (Operand.tmp 14), type := 0, pos := "early.go:43", after := #[{ on := 12, ground := Ground.data }, { on := 10, ground := Ground.data }, { on := 10, ground := Ground.chain }, { on := 0, ground := Ground.phase }, { on := 1, ground := Ground.phase }, { on := 2, ground := Ground.phase }, { on := 3, ground := Ground.phase }, { on := 4, ground := Ground.phase }, { on := 5, ground := Ground.phase }, { on := 6, ground := Ground.phase }, { on := 7, ground := Ground.phase }, { on := 8, ground := Ground.phase }, { on := 9, ground := Ground.phase }, { on := 10, ground := Ground.phase }], guard := none }) rfl (fun K hK => ?_) AllReady.nil)
      go_simp
      refine hK _ _ ?_
      clear hK K
      try simp only [Act.put]
      refine wpAny_done (by kernel_rfl) ?_ _
      generalize hV : w5.setCell ⟨rb, 1, none⟩ (.slice a5_ (n + 1) c5_) = V at HFF ⊢
      obtain ⟨u0, u1, uf, HZ⟩ := unhide HFF
      clear z1 fz HFF RNG HI HOW HB HN HCL H1 HWD hV
      go_wp2_with fail
      go_end0
      exact ⟨rfl, _, HZ⟩
    · refine step_buildM rfl 52 43 (.tmp 12) rfl cs (by first | rfl | simp [Act.eval, Act.put]) j0 (.agg fd0) Try.underlying52 hj hy0 (by rw [unhide HCL]; exact hy1) (by rw [unhide HCL]; decide) (by rw [unhide HCL]; decide) ?_
      refine hK _ _ ?_
      clear hK K
      try simp only [Act.put, List.setIfInBounds_toArray, List.set_cons_zero, List.set_cons_succ]
      refine wpAny_ready (rs := [4]) (by kernel_rfl) (by simp) (AllReady.cons (o := { dst := some 8, op := Op.load 52 (Operand.tmp 7), type := 52, pos := "early.go:43", after := #[{ on := 3, ground := Ground.data }], guard := none }) rfl (fun K hK => ?_) AllReady.nil)
      go_simp
      refine hK _ _ ?_
      clear hK K
      try simp only [Act.put, List.setIfInBounds_toArray, List.set_cons_zero, List.set_cons_succ]
      refine wpAny_ready (rs := [10]) (by kernel_rfl) (by simp) (AllReady.cons (o := { dst := some 14, op := Op.call { callee := Callee.builtin Builtin.append, args := #[Operand.tmp 8, Operand.tmp 13], argTypes := #[52, 52] }, type := 52, pos := "early.go:43", after := #[{ on := 4, ground := Ground.data }, { on := 9, ground := Ground.data }], guard := none }) rfl (fun K hK => ?_) AllReady.nil)
      refine step_appM rfl (.tmp 8) (.tmp 13) 52 rfl B 43 j0 (.agg fd0) 53 600 Try.underlying52 hj hy0 hy1 hyb rfl (by decide) (.slice ta n tc) n T (by first | rfl | simp [Act.eval, Act.put]) (World.ownsRow.alloc (unhide HOW) _) ⟨W.heap.size, 0, none⟩ 1 1 cs (by first | rfl | simp [Act.eval, Act.put]) (by rw [unhide HCL]) (cells_newM W cs 43) (unhide H1) (unhide HN).1 (unhide HN).2 (by have := unhide HB; simp; omega) ?_
      intro v5 w5 hr5 hg5 hv5
      obtain ⟨⟨z1, fz⟩, HFF⟩ := unhide HFIN v5 w5 hr5 hg5 hv5
      obtain ⟨a5_, c5_, rfl⟩ := own_slice hr5
      clear hr5 hg5 hv5 HFIN x1 y1
      refine hK _ _ ?_
      clear hK K
      try simp only [Act.put, List.setIfInBounds_toArray, List.set_cons_zero, List.set_cons_succ]
      refine wpAny_take (i := 11) (oi := { dst := some 15, op := Op.nilCheck (Operand.tmp 4), type := 0, pos := "early.go:43", after := #[{ on := 0, ground := Ground.data }, { on := 0, ground := Ground.phase }, { on := 1, ground := Ground.phase }, { on := 2, ground := Ground.phase }, { on := 3, ground := Ground.phase }, { on := 4, ground := Ground.phase }, { on := 5, ground := Ground.phase }, { on := 6, ground := Ground.phase }, { on := 7, ground := Ground.phase }, { on := 8, ground := Ground.phase }, { on := 9, ground := Ground.phase }, { on := 10, ground := Ground.phase }], guard := none }) (v := .pointer (some ⟨rb, 0, none⟩)) rfl (by kernel_rfl) (by kernel_rfl) (by kernel_rfl) (fun _ _ _ h => h) (Or.inl ⟨by rfl, fun w => by go_simp⟩) ?_
      try simp only [Act.put, List.setIfInBounds_toArray, List.set_cons_zero, List.set_cons_succ]
      refine wpAny_take (i := 12) (oi := { dst := some 16, op := Op.fieldAddr 104 (Operand.tmp 15) 1, type := 0, pos := "early.go:43", after := #[{ on := 11, ground := Ground.data }, { on := 0, ground := Ground.phase }, { on := 1, ground := Ground.phase }, { on := 2, ground := Ground.phase }, { on := 3, ground := Ground.phase }, { on := 4, ground := Ground.phase }, { on := 5, ground := Ground.phase }, { on := 6, ground := Ground.phase }, { on := 7, ground := Ground.phase }, { on := 8, ground := Ground.phase }, { on := 9, ground := Ground.phase }, { on := 10, ground := Ground.phase }], guard := none }) (v := .pointer (some ⟨rb, 1, none⟩)) rfl (by kernel_rfl) (by kernel_rfl) (by kernel_rfl) (fun _ _ _ h => h) (Or.inl ⟨by rfl, fun w => by go_simp⟩) ?_
      try simp only [Act.put, List.setIfInBounds_toArray, List.set_cons_zero, List.set_cons_succ]
      refine wpAny_ready (rs := [13]) (by kernel_rfl) (by simp) (AllReady.cons (o := { dst := none, op := Op.store 52 (Operand.tmp 16) (Operand.tmp 14), type := 0, pos := "early.go:43", after := #[{ on := 12, ground := Ground.data }, { on := 10, ground := Ground.data }, { on := 10, ground := Ground.chain }, { on := 0, ground := Ground.phase }, { on := 1, ground := Ground.phase }, { on := 2, ground := Ground.phase }, { on := 3, ground := Ground.phase }, { on := 4, ground := Ground.phase }, { on := 5, ground := Ground.phase }, { on := 6, ground := Ground.phase }, { on := 7, ground := Ground.phase }, { on := 8, ground := Ground.phase }, { on := 9, ground := Ground.phase }, { on := 10, ground := Ground.phase }], guard := none }) rfl (fun K hK => ?_) AllReady.nil)
      go_simp
      refine hK _ _ ?_
      clear hK K
      try simp only [Act.put]
      refine wpAny_done (by kernel_rfl) ?_ _
      generalize hV : w5.setCell ⟨rb, 1, none⟩ (.slice a5_ (n + 1) c5_) = V at HFF ⊢
      obtain ⟨u0, u1, uf, HZ⟩ := unhide HFF
      clear z1 fz HFF RNG HI HOW HB HN HCL H1 HWD hV
      go_wp2_with fail
      go_end0
      exact ⟨rfl, _, HZ⟩
end Go.Proofs.Ytgiicendejgklaa

/- What came is kept (keep). mkQuV.py writes it. -/
namespace Go.Proofs.Ytgiicendejgklaa
open Go.RowKit Go.Maps
theorem infoErS3 : (Try.prog.info? 87).map (·.size) = some 54 := by kernel_rfl
set_option maxRecDepth 100000 in
set_option maxHeartbeats 16000000 in
theorem keep_any {w : World} {rb lb lo B n : Nat} {tv ev : Value} {T : List Value} {LC : Array Value} {e : Er} {x : Fx} {eb eo : Nat} (hr : Rcv w rb lb lo tv) (ho : w.ownsRow B 87 54 ev n T) (hn : n ≤ 1048576) (hB : B ≤ w.heap.size)
    (hl : w.heap[lb]? = some (.cells LC 73 (0, 0))) (hx : LC[lo + 4]? = some ev) (he : w.rangeAt eb eo (erC e x)) (h1 : ∀ u ∈ erC e x, u.oneCell' = true) (d1 : lb ≠ rb) (d2 : ev.ownBlock ≠ some rb) (d3 : ev.ownBlock ≠ some lb) :
    Calls Try.prog 65 #[.pointer (some ⟨rb, 0, none⟩), .pointer (some ⟨eb, eo, none⟩)] w fun r w' => r = .returned (.tuple #[]) ∧ ∃ ev', Hid (Rcv w' rb lb lo tv ∧ w'.ownsRow B 87 54 ev' (n + 1) (T ++ erC e x) ∧ w'.heap[lb]? = some (.cells (LC.setIfInBounds (lo + 4) ev') 73 (0, 0)) ∧ Fr (lb :: ev.ownBlock.toList) w w' ∧ Same w ev ev') := by
  obtain ⟨j0, hj, hy0, hy1, hyb⟩ := info_parts infoKEarly
  obtain ⟨cs, hcs⟩ : ∃ z, z = erC e x := ⟨_, rfl⟩
  have hcl : cs.length = 54 := by rw [hcs]; rfl
  rw [← hcs] at h1 he ⊢
  obtain ⟨ta, tc, rfl⟩ := own_slice ho
  obtain ⟨W, hW⟩ : ∃ W, W = w.drew := ⟨_, rfl⟩
  have hWh : ∀ k : Nat, W.heap[k]? = w.heap[k]? := fun k => by rw [hW]; rfl
  have hWs : W.heap.size = w.heap.size := by rw [hW]; rfl
  have hWf : Fr [] w W := by rw [hW]; exact (Fr.refl [] w).drew
  have rr : W.heap[rb]? = some (.cells #[.pointer (some ⟨lb, lo, none⟩), tv] 104 (0, 0)) := by rw [hWh]; exact hr
  have rl : W.heap[lb]? = some (.cells LC 73 (0, 0)) := by rw [hWh]; exact hl
  have x0 : W.cell? ⟨rb, 0, none⟩ = some (.pointer (some ⟨lb, lo, none⟩)) := blk_c rr rfl
  have y0 : ∀ o, (W.alloc o).cell? ⟨rb, 0, none⟩ = some (.pointer (some ⟨lb, lo, none⟩)) := fun o => by rw [(bwA W o).cell (lt_of_cell x0)]; exact x0
  have x4 : W.cell? ⟨lb, lo + 4, none⟩ = some (.slice ta n tc) := blk_c rl hx
  have y4 : ∀ o, (W.alloc o).cell? ⟨lb, lo + 4, none⟩ = some (.slice ta n tc) := fun o => by rw [(bwA W o).cell (lt_of_cell x4)]; exact x4
  have oW : W.ownsRow B 87 54 (.slice ta n tc) n T := own_blocks ho (fun k _ => hWh k)
  have RNG : Hid (W.rangeAt eb eo cs) := by
    intro j u hu
    rw [World.cell?_of_block (w := w) (hWh _)]; exact he j u hu
  have HI : Hid ((Try.prog.info? 87).map (·.size) = some cs.length) := by rw [hcl]; exact infoErS3
  have HFIN : Hid (∀ v5 w5, w5.ownsRow B 87 54 v5 (n + 1) (T ++ cs) → (W.alloc (.cells cs.toArray 87)).grownBy w5 (Value.slice ta n tc).ownBlock → (v5.ownBlock = (Value.slice ta n tc).ownBlock ∨ v5.ownBlock = some (W.alloc (.cells cs.toArray 87)).heap.size) →
      (w5.cell? ⟨lb, lo + 4, none⟩ = some (.slice ta n tc) ∧ w5.frozen? ⟨lb, lo + 4, none⟩ = false ∧ w5.cell? ⟨rb, 0, none⟩ = some (.pointer (some ⟨lb, lo, none⟩))) ∧
        Hid (Rcv (w5.setCell ⟨lb, lo + 4, none⟩ v5) rb lb lo tv ∧ (w5.setCell ⟨lb, lo + 4, none⟩ v5).ownsRow B 87 54 v5 (n + 1) (T ++ cs) ∧ (w5.setCell ⟨lb, lo + 4, none⟩ v5).heap[lb]? = some (.cells (LC.setIfInBounds (lo + 4) v5) 73 (0, 0)) ∧
          Fr (lb :: (Value.slice ta n tc).ownBlock.toList) w (w5.setCell ⟨lb, lo + 4, none⟩ v5) ∧ Same w (.slice ta n tc) v5)) := fun v5 w5 hr5 hg5 hv5 => by
    have hbs : (W.alloc (.cells cs.toArray 87)).heap.size = w.heap.size + 1 := by simp [hWs]
    have lr : rb < w.heap.size := lt_of_blk hr
    have ll : lb < w.heap.size := lt_of_blk hl
    have fb : Fr [] w (W.alloc (.cells cs.toArray 87)) := hWf.trans (fr_alloc W (.cells cs.toArray 87)) (fun _ _ q => by cases q) (fun _ _ q => by cases q)
    have f5 : Fr (Value.slice ta n tc).ownBlock.toList w w5 := fb.trans (Fr.ofGrown hg5) (fun _ _ q => by cases q) (fun _ _ q => q)
    have k5 : ∀ k : Nat, k < w.heap.size → (Value.slice ta n tc).ownBlock ≠ some k → w5.heap[k]? = w.heap[k]? := fun k hk hne => f5.block k hk (by simpa using hne)
    have r5 : w5.heap[rb]? = some (.cells #[.pointer (some ⟨lb, lo, none⟩), tv] 104 (0, 0)) := by rw [k5 rb lr d2]; exact hr
    have l5 : w5.heap[lb]? = some (.cells LC 73 (0, 0)) := by rw [k5 lb ll d3]; exact hl
    have sv : Same w (.slice ta n tc) v5 := hv5.imp id (fun q => ⟨_, q, by rw [hbs]; omega⟩)
    have nb : ∀ k : Nat, v5.ownBlock = some k → k ≠ lb := fun k hk => by
      rcases hv5 with q | q
      · rw [q] at hk
        exact fun c => d3 (by rw [← c]; exact hk)
      · rw [q, hbs] at hk
        simp only [Option.some.injEq] at hk
        omega
    refine ⟨⟨blk_c l5 hx, froz_b' l5, blk_c r5 rfl⟩, ?_, ?_, poke_b l5 _, ?_, sv⟩
    · unfold Rcv; rw [other_c (Ne.symm d1)]; exact r5
    · exact own_blocks hr5 (fun k hk => other_c (nb k hk))
    · exact (f5.mono (fun z _ hz => by simp only [List.mem_cons]; exact Or.inr hz)).setCell (Or.inr (by simp)) _
  have HWD := hide hW
  have HOW := hide oW
  have HB : Hid (B ≤ W.heap.size) := by rw [hWs]; exact hB
  have hnI : n + 1 ≤ maxLen ∧ (n + 1) * 608 ≤ 140737488355328 := by unfold maxLen; omega
  have HN := hide hnI
  have HCL := hide hcl
  have H1 := hide h1
  clear hr ho hn hB hl hx he h1 hcs hWh hWs hWf rr rl oW hW d1 d2 d3 hnI hcl
  go_enter Try.func65, Try.ntmps65
  go_upto_region 0 with fail
  refine wp_region_held_drew (S := fun w' : World => (w').cell? ⟨rb, 0, none⟩ = some (.pointer (some ⟨lb, lo, none⟩))) (by kernel_rfl) (by rw [← unhide HWD]; exact x0) (fun hHeld => ?_)
  revert hHeld
  rw [← unhide HWD]
  intro hHeld
  refine wpAnyH_take (i := 0) (oi := { dst := some 4, op := Op.move (Operand.tmp 0), type := 140, pos := "early.go:48", after := #[], guard := none }) (v := .pointer (some ⟨rb, 0, none⟩)) rfl (by kernel_rfl) (by kernel_rfl) (by kernel_rfl) (fun _ _ _ h => h) (Or.inl ⟨by rfl, fun w hSw => by (try dsimp only at hSw); go_simp⟩) (by exact hHeld) ?_
  try simp only [Act.put, List.setIfInBounds_toArray, List.set_cons_zero, List.set_cons_succ]
  refine wpAnyH_take (i := 4) (oi := { dst := some 8, op := Op.move (Operand.tmp 0), type := 140, pos := "early.go:48", after := #[], guard := none }) (v := .pointer (some ⟨rb, 0, none⟩)) rfl (by kernel_rfl) (by kernel_rfl) (by kernel_rfl) (fun _ _ _ h => h) (Or.inl ⟨by rfl, fun w hSw => by (try dsimp only at hSw); go_simp⟩) (by exact hHeld) ?_
  try simp only [Act.put, List.setIfInBounds_toArray, List.set_cons_zero, List.set_cons_succ]
  refine wpAnyH_take (i := 11) (oi := { dst := some 15, op := Op.move (Operand.tmp 1), type := 102, pos := "early.go:48", after := #[], guard := none }) (v := .pointer (some ⟨eb, eo, none⟩)) rfl (by kernel_rfl) (by kernel_rfl) (by kernel_rfl) (fun _ _ _ h => h) (Or.inl ⟨by rfl, fun w hSw => by (try dsimp only at hSw); go_simp⟩) (by exact hHeld) ?_
  try simp only [Act.put, List.setIfInBounds_toArray, List.set_cons_zero, List.set_cons_succ]
  refine wpAnyH_take (i := 1) (oi := { dst := some 5, op := Op.nilCheck (Operand.tmp 4), type := 0, pos := "early.go:48", after := #[{ on := 0, ground := Ground.data }], guard := none }) (v := .pointer (some ⟨rb, 0, none⟩)) rfl (by kernel_rfl) (by kernel_rfl) (by kernel_rfl) (fun _ _ _ h => h) (Or.inl ⟨by rfl, fun w hSw => by (try dsimp only at hSw); go_simp⟩) (by exact hHeld) ?_
  try simp only [Act.put, List.setIfInBounds_toArray, List.set_cons_zero, List.set_cons_succ]
  refine wpAnyH_take (i := 5) (oi := { dst := some 9, op := Op.nilCheck (Operand.tmp 8), type := 0, pos := "early.go:48", after := #[{ on := 4, ground := Ground.data }], guard := none }) (v := .pointer (some ⟨rb, 0, none⟩)) rfl (by kernel_rfl) (by kernel_rfl) (by kernel_rfl) (fun _ _ _ h => h) (Or.inl ⟨by rfl, fun w hSw => by (try dsimp only at hSw); go_simp⟩) (by exact hHeld) ?_
  try simp only [Act.put, List.setIfInBounds_toArray, List.set_cons_zero, List.set_cons_succ]
  refine wpAnyH_take (i := 12) (oi := { dst := some 16, op := Op.nilCheck (Operand.tmp 15), type := 0, pos := "early.go:48", after := #[{ on := 11, ground := Ground.data }], guard := none }) (v := .pointer (some ⟨eb, eo, none⟩)) rfl (by kernel_rfl) (by kernel_rfl) (by kernel_rfl) (fun _ _ _ h => h) (Or.inl ⟨by rfl, fun w hSw => by (try dsimp only at hSw); go_simp⟩) (by exact hHeld) ?_
  try simp only [Act.put, List.setIfInBounds_toArray, List.set_cons_zero, List.set_cons_succ]
  refine wpAnyH_take (i := 2) (oi := { dst := some 6, op := Op.fieldAddr 104 (Operand.tmp 5) 0, type := 0, pos := "early.go:48", after := #[{ on := 1, ground := Ground.data }], guard := none }) (v := .pointer (some ⟨rb, 0, none⟩)) rfl (by kernel_rfl) (by kernel_rfl) (by kernel_rfl) (fun _ _ _ h => h) (Or.inl ⟨by rfl, fun w hSw => by (try dsimp only at hSw); go_simp⟩) (by exact hHeld) ?_
  try simp only [Act.put, List.setIfInBounds_toArray, List.set_cons_zero, List.set_cons_succ]
  refine wpAnyH_take (i := 6) (oi := { dst := some 10, op := Op.fieldAddr 104 (Operand.tmp 9) 0, type := 0, pos := "early.go:48", after := #[{ on := 5, ground := Ground.data }], guard := none }) (v := .pointer (some ⟨rb, 0, none⟩)) rfl (by kernel_rfl) (by kernel_rfl) (by kernel_rfl) (fun _ _ _ h => h) (Or.inl ⟨by rfl, fun w hSw => by (try dsimp only at hSw); go_simp⟩) (by exact hHeld) ?_
  try simp only [Act.put, List.setIfInBounds_toArray, List.set_cons_zero, List.set_cons_succ]
  refine wpAnyH_take (i := 3) (oi := { dst := some 7, op := Op.load 79 (Operand.tmp 6), type := 79, pos := "early.go:48", after := #[{ on := 2, ground := Ground.data }], guard := none }) (v := .pointer (some ⟨lb, lo, none⟩)) rfl (by kernel_rfl) (by kernel_rfl) (by kernel_rfl) (fun _ _ _ h => h) (Or.inl ⟨by rfl, fun w hSw => by (try dsimp only at hSw); go_simp⟩) (by exact hHeld) ?_
  try simp only [Act.put, List.setIfInBounds_toArray, List.set_cons_zero, List.set_cons_succ]
  refine wpAnyH_take (i := 7) (oi := { dst := some 11, op := Op.load 79 (Operand.tmp 10), type := 79, pos := "early.go:48", after := #[{ on := 6, ground := Ground.data }], guard := none }) (v := .pointer (some ⟨lb, lo, none⟩)) rfl (by kernel_rfl) (by kernel_rfl) (by kernel_rfl) (fun _ _ _ h => h) (Or.inl ⟨by rfl, fun w hSw => by (try dsimp only at hSw); go_simp⟩) (by exact hHeld) ?_
  try simp only [Act.put, List.setIfInBounds_toArray, List.set_cons_zero, List.set_cons_succ]
  refine wpAnyH_take (i := 8) (oi := { dst := some 12, op := Op.nilCheck (Operand.tmp 11), type := 0, pos := "early.go:48", after := #[{ on := 7, ground := Ground.data }], guard := none }) (v := .pointer (some ⟨lb, lo, none⟩)) rfl (by kernel_rfl) (by kernel_rfl) (by kernel_rfl) (fun _ _ _ h => h) (Or.inl ⟨by rfl, fun w hSw => by (try dsimp only at hSw); go_simp⟩) (by exact hHeld) ?_
  try simp only [Act.put, List.setIfInBounds_toArray, List.set_cons_zero, List.set_cons_succ]
  refine wpAnyH_take (i := 9) (oi := { dst := some 13, op := Op.fieldAddr 73 (Operand.tmp 12) 4, type := 0, pos := "early.go:48", after := #[{ on := 8, ground := Ground.data }], guard := none }) (v := .pointer (some ⟨lb, lo + 4, none⟩)) rfl (by kernel_rfl) (by kernel_rfl) (by kernel_rfl) (fun _ _ _ h => h) (Or.inl ⟨by rfl, fun w hSw => by (try dsimp only at hSw); go_simp⟩) (by exact hHeld) ?_
  try simp only [Act.put, List.setIfInBounds_toArray, List.set_cons_zero, List.set_cons_succ]
  refine wpAnyH_ready (rs := [10, 13]) (by kernel_rfl) (by simp) ?_
  refine (AllReadyH.cons (o := { dst := some 14, op := Op.load 71 (Operand.tmp 13), type := 71, pos := "early.go:48", after := #[{ on := 9, ground := Ground.data }], guard := none }) rfl (fun K hK => ?_) (AllReadyH.cons (o := { dst := some 17, op := Op.load 87 (Operand.tmp 16), type := 87, pos := "early.go:48", after := #[{ on := 12, ground := Ground.data }], guard := none }) rfl (fun K hK => ?_) AllReadyH.nil))
  · go_simp
    refine hK.out _ _ hHeld (fun _ => ?_)
    clear hK K
    try simp only [Act.put, List.setIfInBounds_toArray, List.set_cons_zero, List.set_cons_succ]
    refine wpAnyH_ready (rs := [13]) (by kernel_rfl) (by simp) ?_
    refine (AllReadyH.cons (o := { dst := some 17, op := Op.load 87 (Operand.tmp 16), type := 87, pos := "early.go:48", after := #[{ on := 12, ground := Ground.data }], guard := none }) rfl (fun K hK => ?_) AllReadyH.nil)
    refine step_loadQ rfl 87 (.tmp 16) rfl eb eo (by first | rfl | simp [Act.eval, Act.put]) cs _ (unhide RNG) Try.underlying87 rfl (unhide HI) ?_
    refine hK.out _ _ hHeld (fun _ => ?_)
    clear hK K
    try simp only [Act.put, List.setIfInBounds_toArray, List.set_cons_zero, List.set_cons_succ]
    refine wpAnyH_ready (rs := [14]) (by kernel_rfl) (by simp) ?_
    refine (AllReadyH.cons (o := { dst := some 18, op := Op.buildSlice 71 1 #[(0, Operand.tmp 17)], type := 71, pos := "early.go:48", after := #[{ on := 13, ground := Ground.data }], guard := none }) rfl (fun K hK => ?_) AllReadyH.nil)
    refine step_buildM rfl 71 87 (.tmp 17) rfl cs (by first | rfl | simp [Act.eval, Act.put]) j0 (.agg er0) Try.underlying71 hj hy0 (by rw [unhide HCL]; exact hy1) (by rw [unhide HCL]; decide) (by rw [unhide HCL]; decide) ?_
    refine hK.out _ _ (y0 _) (fun _ => ?_)
    clear hK K
    try simp only [Act.put, List.setIfInBounds_toArray, List.set_cons_zero, List.set_cons_succ]
    refine wpAnyH_ready (rs := [15]) (by kernel_rfl) (by simp) ?_
    refine (AllReadyH.cons (o := { dst := some 19, op := Op.call { callee := Callee.builtin Builtin.append, args := #[Operand.tmp 14, Operand.tmp 18], argTypes := #[71, 71] }, type := 71, pos := "early.go:48", after := #[{ on := 10, ground := Ground.data }, { on := 14, ground := Ground.data }], guard := none }) rfl (fun K hK => ?_) AllReadyH.nil)
    refine step_appM rfl (.tmp 14) (.tmp 18) 71 rfl B 87 j0 (.agg er0) 54 608 Try.underlying71 hj hy0 hy1 hyb rfl (by decide) (.slice ta n tc) n T (by first | rfl | simp [Act.eval, Act.put]) (World.ownsRow.alloc (unhide HOW) _) ⟨W.heap.size, 0, none⟩ 1 1 cs (by first | rfl | simp [Act.eval, Act.put]) (by rw [unhide HCL]) (cells_newM W cs 87) (unhide H1) (unhide HN).1 (unhide HN).2 (by have := unhide HB; simp; omega) ?_
    intro v5 w5 hr5 hg5 hv5
    obtain ⟨⟨z1, fz, z0⟩, HFF⟩ := unhide HFIN v5 w5 hr5 hg5 hv5
    obtain ⟨a5_, c5_, rfl⟩ := own_slice hr5
    clear hr5 hg5 hv5 HFIN x0 y0 x4 y4 hHeld
    refine hK.out _ _ z0 (fun _ => ?_)
    clear hK K
    try simp only [Act.put, List.setIfInBounds_toArray, List.set_cons_zero, List.set_cons_succ]
    refine wpAnyH_take (i := 16) (oi := { dst := some 20, op := Op.nilCheck (Operand.tmp 7), type := 0, pos := "early.go:48", after := #[{ on := 3, ground := Ground.data }, { on := 0, ground := Ground.phase }, { on := 1, ground := Ground.phase }, { on := 2, ground := Ground.phase }, { on := 3, ground := Ground.phase }, { on := 4, ground := Ground.phase }, { on := 5, ground := Ground.phase }, { on := 6, ground := Ground.phase }, { on := 7, ground := Ground.phase }, { on := 8, ground := Ground.phase }, { on := 9, ground := Ground.phase }, { on := 10, ground := Ground.phase }, { on := 11, ground := Ground.phase }, { on := 12, ground := Ground.phase }, { on := 13, ground := Ground.phase }, { on := 14, ground := Ground.phase }, { on := 15, ground := Ground.phase }], guard := none }) (v := .pointer (some ⟨lb, lo, none⟩)) rfl (by kernel_rfl) (by kernel_rfl) (by kernel_rfl) (fun _ _ _ h => h) (Or.inl ⟨by rfl, fun w hSw => by (try dsimp only at hSw); go_simp⟩) (by exact z0) ?_
    try simp only [Act.put, List.setIfInBounds_toArray, List.set_cons_zero, List.set_cons_succ]
    refine wpAnyH_take (i := 17) (oi := { dst := some 21, op := Op.fieldAddr 73 (Operand.tmp 20) 4, type := 0, pos := "early.go:48", after := #[{ on := 16, ground := Ground.data }, { on := 0, ground := Ground.phase }, { on := 1, ground := Ground.phase }, { on := 2, ground := Ground.phase }, { on := 3, ground := Ground.phase }, { on := 4, ground := Ground.phase }, { on := 5, ground := Ground.phase }, { on := 6, ground := Ground.phase }, { on := 7, ground := Ground.phase }, { on := 8, ground := Ground.phase }, { on := 9, ground := Ground.phase }, { on := 10, ground := Ground.phase }, { on := 11, ground := Ground.phase }, { on := 12, ground := Ground.phase }, { on := 13, ground := Ground.phase }, { on := 14, ground := Ground.phase }, { on := 15, ground := Ground.phase }], guard := none }) (v := .pointer (some ⟨lb, lo + 4, none⟩)) rfl (by kernel_rfl) (by kernel_rfl) (by kernel_rfl) (fun _ _ _ h => h) (Or.inl ⟨by rfl, fun w hSw => by (try dsimp only at hSw); go_simp⟩) (by exact z0) ?_
    try simp only [Act.put, List.setIfInBounds_toArray, List.set_cons_zero, List.set_cons_succ]
    refine wpAnyH_ready (rs := [18]) (by kernel_rfl) (by simp) ?_
    refine (AllReadyH.cons (o := { dst := none, op := Op.store 71 (Operand.tmp 21) (Operand.tmp 19), type := 0, pos := "early.go:48", after := #[{ on := 17, ground := Ground.data }, { on := 15, ground := Ground.data }, { on := 15, ground := Ground.chain }, { on := 0, ground := Ground.phase }, { on := 1, ground := Ground.phase }, { on := 2, ground := Ground.phase }, { on := 3, ground := Ground.phase }, { on := 4, ground := Ground.phase }, { on := 5, ground := Ground.phase }, { on := 6, ground := Ground.phase }, { on := 7, ground := Ground.phase }, { on := 8, ground := Ground.phase }, { on := 9, ground := Ground.phase }, { on := 10, ground := Ground.phase }, { on := 11, ground := Ground.phase }, { on := 12, ground := Ground.phase }, { on := 13, ground := Ground.phase }, { on := 14, ground := Ground.phase }, { on := 15, ground := Ground.phase }], guard := none }) rfl (fun K hK => ?_) AllReadyH.nil)
    go_simp
    refine hK.out _ _ (blk_c (unhide HFF).1 rfl) (fun _ => ?_)
    clear hK K
    try simp only [Act.put]
    refine wpAnyH_done (by kernel_rfl) ?_ _
    go_wp2_with fail
    go_end0
    exact ⟨rfl, _, HFF⟩
  · refine step_loadQ rfl 87 (.tmp 16) rfl eb eo (by first | rfl | simp [Act.eval, Act.put]) cs _ (unhide RNG) Try.underlying87 rfl (unhide HI) ?_
    refine hK.out _ _ hHeld (fun _ => ?_)
    clear hK K
    try simp only [Act.put, List.setIfInBounds_toArray, List.set_cons_zero, List.set_cons_succ]
    refine wpAnyH_ready (rs := [10, 14]) (by kernel_rfl) (by simp) ?_
    refine (AllReadyH.cons (o := { dst := some 14, op := Op.load 71 (Operand.tmp 13), type := 71, pos := "early.go:48", after := #[{ on := 9, ground := Ground.data }], guard := none }) rfl (fun K hK => ?_) (AllReadyH.cons (o := { dst := some 18, op := Op.buildSlice 71 1 #[(0, Operand.tmp 17)], type := 71, pos := "early.go:48", after := #[{ on := 13, ground := Ground.data }], guard := none }) rfl (fun K hK => ?_) AllReadyH.nil))
    · go_simp
      refine hK.out _ _ hHeld (fun _ => ?_)
      clear hK K
      try simp only [Act.put, List.setIfInBounds_toArray, List.set_cons_zero, List.set_cons_succ]
      refine wpAnyH_ready (rs := [14]) (by kernel_rfl) (by simp) ?_
      refine (AllReadyH.cons (o := { dst := some 18, op := Op.buildSlice 71 1 #[(0, Operand.tmp 17)], type := 71, pos := "early.go:48", after := #[{ on := 13, ground := Ground.data }], guard := none }) rfl (fun K hK => ?_) AllReadyH.nil)
      refine step_buildM rfl 71 87 (.tmp 17) rfl cs (by first | rfl | simp [Act.eval, Act.put]) j0 (.agg er0) Try.underlying71 hj hy0 (by rw [unhide HCL]; exact hy1) (by rw [unhide HCL]; decide) (by rw [unhide HCL]; decide) ?_
      refine hK.out _ _ (y0 _) (fun _ => ?_)
      clear hK K
      try simp only [Act.put, List.setIfInBounds_toArray, List.set_cons_zero, List.set_cons_succ]
      refine wpAnyH_ready (rs := [15]) (by kernel_rfl) (by simp) ?_
      refine (AllReadyH.cons (o := { dst := some 19, op := Op.call { callee := Callee.builtin Builtin.append, args := #[Operand.tmp 14, Operand.tmp 18], argTypes := #[71, 71] }, type := 71, pos := "early.go:48", after := #[{ on := 10, ground := Ground.data }, { on := 14, ground := Ground.data }], guard := none }) rfl (fun K hK => ?_) AllReadyH.nil)
      refine step_appM rfl (.tmp 14) (.tmp 18) 71 rfl B 87 j0 (.agg er0) 54 608 Try.underlying71 hj hy0 hy1 hyb rfl (by decide) (.slice ta n tc) n T (by first | rfl | simp [Act.eval, Act.put]) (World.ownsRow.alloc (unhide HOW) _) ⟨W.heap.size, 0, none⟩ 1 1 cs (by first | rfl | simp [Act.eval, Act.put]) (by rw [unhide HCL]) (cells_newM W cs 87) (unhide H1) (unhide HN).1 (unhide HN).2 (by have := unhide HB; simp; omega) ?_
      intro v5 w5 hr5 hg5 hv5
      obtain ⟨⟨z1, fz, z0⟩, HFF⟩ := unhide HFIN v5 w5 hr5 hg5 hv5
      obtain ⟨a5_, c5_, rfl⟩ := own_slice hr5
      clear hr5 hg5 hv5 HFIN x0 y0 x4 y4 hHeld
      refine hK.out _ _ z0 (fun _ => ?_)
      clear hK K
      try simp only [Act.put, List.setIfInBounds_toArray, List.set_cons_zero, List.set_cons_succ]
      refine wpAnyH_take (i := 16) (oi := { dst := some 20, op := Op.nilCheck (Operand.tmp 7), type := 0, pos := "early.go:48", after := #[{ on := 3, ground := Ground.data }, { on := 0, ground := Ground.phase }, { on := 1, ground := Ground.phase }, { on := 2, ground := Ground.phase }, { on := 3, ground := Ground.phase }, { on := 4, ground := Ground.phase }, { on := 5, ground := Ground.phase }, { on := 6, ground := Ground.phase }, { on := 7, ground := Ground.phase }, { on := 8, ground := Ground.phase }, { on := 9, ground := Ground.phase }, { on := 10, ground := Ground.phase }, { on := 11, ground := Ground.phase }, { on := 12, ground := Ground.phase }, { on := 13, ground := Ground.phase }, { on := 14, ground := Ground.phase }, { on := 15, ground := Ground.phase }], guard := none }) (v := .pointer (some ⟨lb, lo, none⟩)) rfl (by kernel_rfl) (by kernel_rfl) (by kernel_rfl) (fun _ _ _ h => h) (Or.inl ⟨by rfl, fun w hSw => by (try dsimp only at hSw); go_simp⟩) (by exact z0) ?_
      try simp only [Act.put, List.setIfInBounds_toArray, List.set_cons_zero, List.set_cons_succ]
      refine wpAnyH_take (i := 17) (oi := { dst := some 21, op := Op.fieldAddr 73 (Operand.tmp 20) 4, type := 0, pos := "early.go:48", after := #[{ on := 16, ground := Ground.data }, { on := 0, ground := Ground.phase }, { on := 1, ground := Ground.phase }, { on := 2, ground := Ground.phase }, { on := 3, ground := Ground.phase }, { on := 4, ground := Ground.phase }, { on := 5, ground := Ground.phase }, { on := 6, ground := Ground.phase }, { on := 7, ground := Ground.phase }, { on := 8, ground := Ground.phase }, { on := 9, ground := Ground.phase }, { on := 10, ground := Ground.phase }, { on := 11, ground := Ground.phase }, { on := 12, ground := Ground.phase }, { on := 13, ground := Ground.phase }, { on := 14, ground := Ground.phase }, { on := 15, ground := Ground.phase }], guard := none }) (v := .pointer (some ⟨lb, lo + 4, none⟩)) rfl (by kernel_rfl) (by kernel_rfl) (by kernel_rfl) (fun _ _ _ h => h) (Or.inl ⟨by rfl, fun w hSw => by (try dsimp only at hSw); go_simp⟩) (by exact z0) ?_
      try simp only [Act.put, List.setIfInBounds_toArray, List.set_cons_zero, List.set_cons_succ]
      refine wpAnyH_ready (rs := [18]) (by kernel_rfl) (by simp) ?_
      refine (AllReadyH.cons (o := { dst := none, op := Op.store 71 (Operand.tmp 21) (Operand.tmp 19), type := 0, pos := "early.go:48", after := #[{ on := 17, ground := Ground.data }, { on := 15, ground := Ground.data }, { on := 15, ground := Ground.chain }, { on := 0, ground := Ground.phase }, { on := 1, ground := Ground.phase }, { on := 2, ground := Ground.phase }, { on := 3, ground := Ground.phase }, { on := 4, ground := Ground.phase }, { on := 5, ground := Ground.phase }, { on := 6, ground := Ground.phase }, { on := 7, ground := Ground.phase }, { on := 8, ground := Ground.phase }, { on := 9, ground := Ground.phase }, { on := 10, ground := Ground.phase }, { on := 11, ground := Ground.phase }, { on := 12, ground := Ground.phase }, { on := 13, ground := Ground.phase }, { on := 14, ground := Ground.phase }, { on := 15, ground := Ground.phase }], guard := none }) rfl (fun K hK => ?_) AllReadyH.nil)
      go_simp
      refine hK.out _ _ (blk_c (unhide HFF).1 rfl) (fun _ => ?_)
      clear hK K
      try simp only [Act.put]
      refine wpAnyH_done (by kernel_rfl) ?_ _
      go_wp2_with fail
      go_end0
      exact ⟨rfl, _, HFF⟩
    · refine step_buildM rfl 71 87 (.tmp 17) rfl cs (by first | rfl | simp [Act.eval, Act.put]) j0 (.agg er0) Try.underlying71 hj hy0 (by rw [unhide HCL]; exact hy1) (by rw [unhide HCL]; decide) (by rw [unhide HCL]; decide) ?_
      refine hK.out _ _ (y0 _) (fun _ => ?_)
      clear hK K
      try simp only [Act.put, List.setIfInBounds_toArray, List.set_cons_zero, List.set_cons_succ]
      refine wpAnyH_ready (rs := [10]) (by kernel_rfl) (by simp) ?_
      refine (AllReadyH.cons (o := { dst := some 14, op := Op.load 71 (Operand.tmp 13), type := 71, pos := "early.go:48", after := #[{ on := 9, ground := Ground.data }], guard := none }) rfl (fun K hK => ?_) AllReadyH.nil)
      go_simp
      refine hK.out _ _ (y0 _) (fun _ => ?_)
      clear hK K
      try simp only [Act.put, List.setIfInBounds_toArray, List.set_cons_zero, List.set_cons_succ]
      refine wpAnyH_ready (rs := [15]) (by kernel_rfl) (by simp) ?_
      refine (AllReadyH.cons (o := { dst := some 19, op := Op.call { callee := Callee.builtin Builtin.append, args := #[Operand.tmp 14, Operand.tmp 18], argTypes := #[71, 71] }, type := 71, pos := "early.go:48", after := #[{ on := 10, ground := Ground.data }, { on := 14, ground := Ground.data }], guard := none }) rfl (fun K hK => ?_) AllReadyH.nil)
      refine step_appM rfl (.tmp 14) (.tmp 18) 71 rfl B 87 j0 (.agg er0) 54 608 Try.underlying71 hj hy0 hy1 hyb rfl (by decide) (.slice ta n tc) n T (by first | rfl | simp [Act.eval, Act.put]) (World.ownsRow.alloc (unhide HOW) _) ⟨W.heap.size, 0, none⟩ 1 1 cs (by first | rfl | simp [Act.eval, Act.put]) (by rw [unhide HCL]) (cells_newM W cs 87) (unhide H1) (unhide HN).1 (unhide HN).2 (by have := unhide HB; simp; omega) ?_
      intro v5 w5 hr5 hg5 hv5
      obtain ⟨⟨z1, fz, z0⟩, HFF⟩ := unhide HFIN v5 w5 hr5 hg5 hv5
      obtain ⟨a5_, c5_, rfl⟩ := own_slice hr5
      clear hr5 hg5 hv5 HFIN x0 y0 x4 y4 hHeld
      refine hK.out _ _ z0 (fun _ => ?_)
      clear hK K
      try simp only [Act.put, List.setIfInBounds_toArray, List.set_cons_zero, List.set_cons_succ]
      refine wpAnyH_take (i := 16) (oi := { dst := some 20, op := Op.nilCheck (Operand.tmp 7), type := 0, pos := "early.go:48", after := #[{ on := 3, ground := Ground.data }, { on := 0, ground := Ground.phase }, { on := 1, ground := Ground.phase }, { on := 2, ground := Ground.phase }, { on := 3, ground := Ground.phase }, { on := 4, ground := Ground.phase }, { on := 5, ground := Ground.phase }, { on := 6, ground := Ground.phase }, { on := 7, ground := Ground.phase }, { on := 8, ground := Ground.phase }, { on := 9, ground := Ground.phase }, { on := 10, ground := Ground.phase }, { on := 11, ground := Ground.phase }, { on := 12, ground := Ground.phase }, { on := 13, ground := Ground.phase }, { on := 14, ground := Ground.phase }, { on := 15, ground := Ground.phase }], guard := none }) (v := .pointer (some ⟨lb, lo, none⟩)) rfl (by kernel_rfl) (by kernel_rfl) (by kernel_rfl) (fun _ _ _ h => h) (Or.inl ⟨by rfl, fun w hSw => by (try dsimp only at hSw); go_simp⟩) (by exact z0) ?_
      try simp only [Act.put, List.setIfInBounds_toArray, List.set_cons_zero, List.set_cons_succ]
      refine wpAnyH_take (i := 17) (oi := { dst := some 21, op := Op.fieldAddr 73 (Operand.tmp 20) 4, type := 0, pos := "early.go:48", after := #[{ on := 16, ground := Ground.data }, { on := 0, ground := Ground.phase }, { on := 1, ground := Ground.phase }, { on := 2, ground := Ground.phase }, { on := 3, ground := Ground.phase }, { on := 4, ground := Ground.phase }, { on := 5, ground := Ground.phase }, { on := 6, ground := Ground.phase }, { on := 7, ground := Ground.phase }, { on := 8, ground := Ground.phase }, { on := 9, ground := Ground.phase }, { on := 10, ground := Ground.phase }, { on := 11, ground := Ground.phase }, { on := 12, ground := Ground.phase }, { on := 13, ground := Ground.phase }, { on := 14, ground := Ground.phase }, { on := 15, ground := Ground.phase }], guard := none }) (v := .pointer (some ⟨lb, lo + 4, none⟩)) rfl (by kernel_rfl) (by kernel_rfl) (by kernel_rfl) (fun _ _ _ h => h) (Or.inl ⟨by rfl, fun w hSw => by (try dsimp only at hSw); go_simp⟩) (by exact z0) ?_
      try simp only [Act.put, List.setIfInBounds_toArray, List.set_cons_zero, List.set_cons_succ]
      refine wpAnyH_ready (rs := [18]) (by kernel_rfl) (by simp) ?_
      refine (AllReadyH.cons (o := { dst := none, op := Op.store 71 (Operand.tmp 21) (Operand.tmp 19), type := 0, pos := "early.go:48", after := #[{ on := 17, ground := Ground.data }, { on := 15, ground := Ground.data }, { on := 15, ground := Ground.chain }, { on := 0, ground := Ground.phase }, { on := 1, ground := Ground.phase }, { on := 2, ground := Ground.phase }, { on := 3, ground := Ground.phase }, { on := 4, ground := Ground.phase }, { on := 5, ground := Ground.phase }, { on := 6, ground := Ground.phase }, { on := 7, ground := Ground.phase }, { on := 8, ground := Ground.phase }, { on := 9, ground := Ground.phase }, { on := 10, ground := Ground.phase }, { on := 11, ground := Ground.phase }, { on := 12, ground := Ground.phase }, { on := 13, ground := Ground.phase }, { on := 14, ground := Ground.phase }, { on := 15, ground := Ground.phase }], guard := none }) rfl (fun K hK => ?_) AllReadyH.nil)
      go_simp
      refine hK.out _ _ (blk_c (unhide HFF).1 rfl) (fun _ => ?_)
      clear hK K
      try simp only [Act.put]
      refine wpAnyH_done (by kernel_rfl) ?_ _
      go_wp2_with fail
      go_end0
      exact ⟨rfl, _, HFF⟩
end Go.Proofs.Ytgiicendejgklaa

/- How it goes on (way). mkQuX.py writes it. -/
namespace Go.Proofs.Ytgiicendejgklaa
open Go.RowKit Go.Maps
set_option maxRecDepth 100000 in
set_option maxHeartbeats 4000000 in
theorem way_any {w : World} {rb lb lo : Nat} {tv : Value} {ex : Int} {LC : Array Value} (hr : Rcv w rb lb lo tv) (hl : w.heap[lb]? = some (.cells LC 73 (0, 0))) (hx : LC[lo + 3]? = some (.int .i64 ex)) (s : Int) :
    Calls Try.prog 46 #[.pointer (some ⟨rb, 0, none⟩), .int .i64 s] w fun r w' => r = .returned (.func (.func (if s = ex then 64 else 65)) #[.pointer (some ⟨rb, 0, none⟩)] #[]) ∧ w' = w := by
  have a0 : w.cell? ⟨rb, 0, none⟩ = some (.pointer (some ⟨lb, lo, none⟩)) := blk_c hr rfl
  have a3 : w.cell? ⟨lb, lo + 3, none⟩ = some (.int .i64 ex) := blk_c hl hx
  clear hr hl hx
  by_cases c : s = ex
  · rw [if_pos c]
    go_enter Try.func46, Try.ntmps46
    go_wp2_with fail
    go_ret
    exact ⟨rfl, rfl⟩
  · rw [if_neg c]
    go_enter Try.func46, Try.ntmps46
    go_wp2_with fail
    go_ret
    exact ⟨rfl, rfl⟩
end Go.Proofs.Ytgiicendejgklaa
