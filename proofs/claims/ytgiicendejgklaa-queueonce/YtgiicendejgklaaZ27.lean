/- Texts joined: QuRa QuRb QuRc QuRd QuRe QuRg QuRh. -/
import Derived.Test.YtgiicendejgklaaQuZ
import Derived.Test.YtgiicendejgklaaZ26
/- What came is not wanted (receive). mkQuRa.py writes it. -/
namespace Go.Proofs.Ytgiicendejgklaa
open Go.RowKit Go.Maps
set_option maxRecDepth 100000 in
set_option maxHeartbeats 8000000 in
theorem recvNo_any {w : World} {lb lo : Nat} {l : Lk} {x : Lx} {e : Er} {y : Fx} (hlk : w.rangeAt lb lo (lkC l x.qv x.ev)) (h : LkR w l x) (hq : l.ea.length ≤ 1024) (hx0 : 0 ≤ l.ex) (hx1 : l.ex ≤ 1099511627776) (hs0 : 0 ≤ e.sq) (hs1 : e.sq < 1099511627776) (hw : ¬ WantP l e.sq) :
    Calls Try.prog 29 #[.pointer (some ⟨lb, lo, none⟩), .agg (erC e y).toArray] w fun r w' => r = .returned (.slice none 0 0) ∧ Below w.heap.size w w' := by
  obtain ⟨CS, hCS⟩ : ∃ z, z = erC e y := ⟨_, rfl⟩
  obtain ⟨w0, hw0⟩ : ∃ w0, w0 = w.alloc (.cells CS.toArray 87) := ⟨_, rfl⟩
  have kk : w0.heap[w.heap.size]? = some (.cells CS.toArray 87 (0, 0)) := by rw [hw0]; exact heap_alloc_new _ _
  have bl : Below w.heap.size w w0 := by rw [hw0]; exact bwA _ _
  obtain ⟨W, hW⟩ : ∃ W, W = w0.drew := ⟨_, rfl⟩
  have bW : Below w.heap.size w W := by rw [hW]; exact bl.drew
  have x1 : W.cell? ⟨w.heap.size, 0, none⟩ = some (.int .i64 e.sq) := by
    rw [hW]
    exact blk_c (W := w0.drew) kk (by rw [hCS]; rfl)
  have hd : false = true ↔ WantP l e.sq := ⟨fun q => absurd q (by decide), fun q => absurd q hw⟩
  have KW := hide (wanted_any (w := W) (h.bw bW) hq hx0 hx1 hs0 hs1 hd)
  obtain ⟨CL, hCL⟩ : ∃ z, z = lkC l x.qv x.ev := ⟨_, rfl⟩
  rw [← hCL] at KW hlk
  have RNG : Hid (W.rangeAt lb lo CL) := rng_bw hlk bW
  have HI : Hid ((Try.prog.info? 73).map (·.size) = some CL.length) := by rw [hCL]; exact infoLkS
  obtain ⟨sq, hsq⟩ : ∃ z, z = e.sq := ⟨_, rfl⟩
  rw [← hsq] at x1 KW
  rw [← hCS]
  have HWD := hide hW
  have HW := hide hw0
  have HBW := hide bW
  clear hlk h hq hx0 hx1 hs0 hs1 hw hd hCS kk bl hW hw0 hCL bW hsq
  go_enter Try.func29, Try.ntmps29
  go_upto_region 1 with fail
  rw [← unhide HW]
  clear HW
  refine wp_region_any (by kernel_rfl) ?_
  change wpAny _ _ _ _ _ _ _ (World.drew _)
  rw [← unhide HWD]
  refine wpAny_take (i := 0) (oi := { dst := some 9, op := Op.move (Operand.tmp 0), type := 79, pos := "early.go:61", after := #[], guard := none }) (v := .pointer (some ⟨lb, lo, none⟩)) rfl (by kernel_rfl) (by kernel_rfl) (by kernel_rfl) (fun _ _ _ h => h) (Or.inl ⟨by rfl, fun w => by go_simp⟩) ?_
  try simp only [Act.put, List.setIfInBounds_toArray, List.set_cons_zero, List.set_cons_succ]
  refine wpAny_take (i := 3) (oi := { dst := some 12, op := Op.fieldAddr 87 (Operand.tmp 3) 0, type := 0, pos := "early.go:61", after := #[], guard := none }) (v := .pointer (some ⟨w.heap.size, 0, none⟩)) rfl (by kernel_rfl) (by kernel_rfl) (by kernel_rfl) (fun _ _ _ h => h) (Or.inl ⟨by rfl, fun w => by go_simp⟩) ?_
  try simp only [Act.put, List.setIfInBounds_toArray, List.set_cons_zero, List.set_cons_succ]
  refine wpAny_take (i := 1) (oi := { dst := some 10, op := Op.nilCheck (Operand.tmp 9), type := 0, pos := "early.go:61", after := #[{ on := 0, ground := Ground.data }], guard := none }) (v := .pointer (some ⟨lb, lo, none⟩)) rfl (by kernel_rfl) (by kernel_rfl) (by kernel_rfl) (fun _ _ _ h => h) (Or.inl ⟨by rfl, fun w => by go_simp⟩) ?_
  try simp only [Act.put, List.setIfInBounds_toArray, List.set_cons_zero, List.set_cons_succ]
  refine wpAny_ready (rs := [2, 4]) (by kernel_rfl) (by simp) (AllReady.cons (o := { dst := some 11, op := Op.load 73 (Operand.tmp 10), type := 73, pos := "early.go:61", after := #[{ on := 1, ground := Ground.data }], guard := none }) rfl (fun K hK => ?_) (AllReady.cons (o := { dst := some 13, op := Op.load 3 (Operand.tmp 12), type := 3, pos := "early.go:61", after := #[{ on := 3, ground := Ground.data }], guard := none }) rfl (fun K hK => ?_) AllReady.nil))
  · refine step_loadQ rfl 73 (.tmp 10) rfl lb lo (by first | rfl | simp [Act.eval, Act.put]) CL _ (unhide RNG) Try.underlying73 rfl (unhide HI) ?_
    refine hK _ _ ?_
    clear hK K
    try simp only [Act.put, List.setIfInBounds_toArray, List.set_cons_zero, List.set_cons_succ]
    refine wpAny_ready (rs := [4]) (by kernel_rfl) (by simp) (AllReady.cons (o := { dst := some 13, op := Op.load 3 (Operand.tmp 12), type := 3, pos := "early.go:61", after := #[{ on := 3, ground := Ground.data }], guard := none }) rfl (fun K hK => ?_) AllReady.nil)
    go_simp
    refine hK _ _ ?_
    clear hK K
    try simp only [Act.put, List.setIfInBounds_toArray, List.set_cons_zero, List.set_cons_succ]
    refine wpAny_ready (rs := [5]) (by kernel_rfl) (by simp) (AllReady.cons (o := { dst := some 14, op := Op.call { callee := Callee.value (Operand.func 42), args := #[Operand.tmp 11, Operand.tmp 13], argTypes := #[73, 3] }, type := 4, pos := "early.go:61", after := #[{ on := 2, ground := Ground.data }, { on := 4, ground := Ground.data }], guard := none }) rfl (fun K hK => ?_) AllReady.nil)
    go_simp
    refine (unhide KW).mono ?_
    rintro e_ zz ⟨rfl, b3⟩
    have HZ := hide (bw_tr (unhide HBW) b3)
    clear b3 KW x1 RNG HI HWD HBW
    go_wp2_with fail
    try simp only [Act.put, List.setIfInBounds_toArray, List.set_cons_zero, List.set_cons_succ]
    refine wpAny_take (i := 6) (oi := { dst := some 15, op := Op.unOp UnOp.not 4 (Operand.tmp 14), type := 4, pos := "early.go:61", after := #[{ on := 5, ground := Ground.data }], guard := none }) (v := .bool true) rfl (by kernel_rfl) (by kernel_rfl) (by kernel_rfl) (fun _ _ _ h => h) (Or.inl ⟨by rfl, fun w => by go_simp⟩) ?_
    try simp only [Act.put, List.setIfInBounds_toArray, List.set_cons_zero, List.set_cons_succ]
    refine wpAny_done (by kernel_rfl) ?_ _
    go_wp2_with fail
    go_ret
    exact ⟨rfl, unhide HZ⟩
  · go_simp
    refine hK _ _ ?_
    clear hK K
    try simp only [Act.put, List.setIfInBounds_toArray, List.set_cons_zero, List.set_cons_succ]
    refine wpAny_ready (rs := [2]) (by kernel_rfl) (by simp) (AllReady.cons (o := { dst := some 11, op := Op.load 73 (Operand.tmp 10), type := 73, pos := "early.go:61", after := #[{ on := 1, ground := Ground.data }], guard := none }) rfl (fun K hK => ?_) AllReady.nil)
    refine step_loadQ rfl 73 (.tmp 10) rfl lb lo (by first | rfl | simp [Act.eval, Act.put]) CL _ (unhide RNG) Try.underlying73 rfl (unhide HI) ?_
    refine hK _ _ ?_
    clear hK K
    try simp only [Act.put, List.setIfInBounds_toArray, List.set_cons_zero, List.set_cons_succ]
    refine wpAny_ready (rs := [5]) (by kernel_rfl) (by simp) (AllReady.cons (o := { dst := some 14, op := Op.call { callee := Callee.value (Operand.func 42), args := #[Operand.tmp 11, Operand.tmp 13], argTypes := #[73, 3] }, type := 4, pos := "early.go:61", after := #[{ on := 2, ground := Ground.data }, { on := 4, ground := Ground.data }], guard := none }) rfl (fun K hK => ?_) AllReady.nil)
    go_simp
    refine (unhide KW).mono ?_
    rintro e_ zz ⟨rfl, b3⟩
    have HZ := hide (bw_tr (unhide HBW) b3)
    clear b3 KW x1 RNG HI HWD HBW
    go_wp2_with fail
    try simp only [Act.put, List.setIfInBounds_toArray, List.set_cons_zero, List.set_cons_succ]
    refine wpAny_take (i := 6) (oi := { dst := some 15, op := Op.unOp UnOp.not 4 (Operand.tmp 14), type := 4, pos := "early.go:61", after := #[{ on := 5, ground := Ground.data }], guard := none }) (v := .bool true) rfl (by kernel_rfl) (by kernel_rfl) (by kernel_rfl) (fun _ _ _ h => h) (Or.inl ⟨by rfl, fun w => by go_simp⟩) ?_
    try simp only [Act.put, List.setIfInBounds_toArray, List.set_cons_zero, List.set_cons_succ]
    refine wpAny_done (by kernel_rfl) ?_ _
    go_wp2_with fail
    go_ret
    exact ⟨rfl, unhide HZ⟩
end Go.Proofs.Ytgiicendejgklaa

/- The loop of receive: what holds at each round, and what a round makes of it. -/
namespace Go.Proofs.Ytgiicendejgklaa
open Go.RowKit Go.Maps
structure RcI (M : Nat → Prop) (B : Nat) (D : El → Er) (X : El → Fx) (rb lb lo bp : Nat) (wS w : World) (ex : Int) (nt : Nat) (T : List Value) (nk : Nat) (Kc : List Value) (L : List El) (tv ev : Value) (g cap : Nat) (F : Nat → El) (LC : Array Value) : Prop where
  rc : Rcv w rb lb lo tv
  tw : w.ownsRow B 43 53 tv nt T
  lk : w.heap[lb]? = some (.cells LC 73 (0, 0))
  l3 : LC[lo + 3]? = some (.int .i64 ex)
  l4 : LC[lo + 4]? = some ev
  ew : w.ownsRow B 87 54 ev nk Kc
  pq : Pq w bp g L.length cap F L
  mr : M rb
  ml : M lb
  mb : M bp
  mg : M g
  mt : ∀ k, tv.ownBlock = some k → M k
  me : ∀ k, ev.ownBlock = some k → M k
  mn : ∀ k, wS.heap.size ≤ k → M k
  d1 : lb ≠ rb
  d2 : bp ≠ rb
  d3 : bp ≠ lb
  d4 : g ≠ rb
  d5 : g ≠ lb
  dt : ∀ k, tv.ownBlock = some k → k ≠ rb ∧ k ≠ lb ∧ k ≠ bp ∧ k ≠ g
  de : ∀ k, ev.ownBlock = some k → k ≠ rb ∧ k ≠ lb ∧ k ≠ bp ∧ k ≠ g
  te : ∀ k, tv.ownBlock = some k → ev.ownBlock ≠ some k
  el : ∀ a ∈ L, w.rangeAt a.b a.o (erC (D a) (X a)) ∧ (D a).sq = a.sq ∧ ¬ M a.b ∧ (∀ u ∈ erC (D a) (X a), u.oneCell' = true)
  sz : wS.heap.size ≤ w.heap.size
  fr : ∀ k, k < wS.heap.size → ¬ M k → w.heap[k]? = wS.heap[k]?
  env : w.os = wS.os ∧ w.tape = wS.tape ∧ w.output = wS.output
  hB : B ≤ wS.heap.size
theorem rng_blk {w w' : World} {b o : Nat} {cs : List Value} (h : w.rangeAt b o cs) (hb : w'.heap[b]? = w.heap[b]?) : w'.rangeAt b o cs := fun j u hj => by
  rw [World.cell?_of_block (w := w) hb]; exact h j u hj
theorem RcI.pop {M : Nat → Prop} {B : Nat} {D : El → Er} {X : El → Fx} {rb lb lo bp : Nat} {wS w w1 : World} {ex : Int} {nt : Nat} {T : List Value} {nk : Nat} {Kc : List Value} {a : El} {L : List El} {tv ev : Value} {g cap : Nat} {F F' : Nat → El} {LC : Array Value}
    (h : RcI M B D X rb lb lo bp wS w ex nt T nk Kc (a :: L) tv ev g cap F LC) (hp : Pq w1 bp g L.length cap F' L) (hf : Fr [bp, g] w w1) :
    RcI M B D X rb lb lo bp wS w1 ex nt T nk Kc L tv ev g cap F' LC ∧ w1.rangeAt a.b a.o (erC (D a) (X a)) ∧ (D a).sq = a.sq ∧ (∀ u ∈ erC (D a) (X a), u.oneCell' = true) := by
  have kp : ∀ k : Nat, k < w.heap.size → k ≠ bp → k ≠ g → w1.heap[k]? = w.heap[k]? := fun k hk h1 h2 => hf.block k hk (by simp [h1, h2])
  have keep : ∀ {e : TypeId} {c n : Nat} {v : Value} {xs : List Value}, w.ownsRow B e c v n xs → (∀ k, v.ownBlock = some k → k ≠ rb ∧ k ≠ lb ∧ k ≠ bp ∧ k ≠ g) → w1.ownsRow B e c v n xs := fun {e c n v xs} ho hd => own_blocks ho (fun k hk => kp k (ho.lt k hk).2 (hd k hk).2.2.1 (hd k hk).2.2.2)
  have elr : ∀ b ∈ a :: L, w1.rangeAt b.b b.o (erC (D b) (X b)) := fun b hb => by
    obtain ⟨q1, q2, q3, q4⟩ := h.el b hb
    have hlt : b.b < w.heap.size := lt_of_cell (q1 0 _ (show (erC (D b) (X b))[0]? = some (.int .i64 (D b).sq) from rfl))
    exact rng_blk q1 (kp b.b hlt (fun c => q3 (by rw [c]; exact h.mb)) (fun c => q3 (by rw [c]; exact h.mg)))
  refine ⟨⟨?_, keep h.tw h.dt, ?_, h.l3, h.l4, keep h.ew h.de, hp, h.mr, h.ml, h.mb, h.mg, h.mt, h.me, h.mn, h.d1, h.d2, h.d3, h.d4, h.d5, h.dt, h.de, h.te, fun b hb => ⟨elr b (List.mem_cons_of_mem _ hb), (h.el b (List.mem_cons_of_mem _ hb)).2⟩, Nat.le_trans h.sz hf.size, fun k hk hm => ?_, ?_, h.hB⟩, elr a (by simp), (h.el a (by simp)).2.1, (h.el a (by simp)).2.2.2⟩
  · unfold Rcv; rw [kp rb (lt_of_blk h.rc) (Ne.symm h.d2) (Ne.symm h.d4)]; exact h.rc
  · rw [kp lb (lt_of_blk h.lk) (Ne.symm h.d3) (Ne.symm h.d5)]; exact h.lk
  · rw [kp k (Nat.lt_of_lt_of_le hk h.sz) (fun c => hm (by rw [c]; exact h.mb)) (fun c => hm (by rw [c]; exact h.mg))]; exact h.fr k hk hm
  · exact ⟨hf.os.trans h.env.1, hf.tape.trans h.env.2.1, hf.output.trans h.env.2.2⟩
theorem RcI.tell {M : Nat → Prop} {B : Nat} {D : El → Er} {X : El → Fx} {rb lb lo bp : Nat} {wS w w1 : World} {ex : Int} {nt : Nat} {T : List Value} {nk : Nat} {Kc : List Value} {L : List El} {tv ev tv2 : Value} {g cap : Nat} {F : Nat → El} {LC : Array Value} {cs : List Value}
    (h : RcI M B D X rb lb lo bp wS w ex nt T nk Kc L tv ev g cap F LC) (hr : Rcv w1 rb lb lo tv2) (ho : w1.ownsRow B 43 53 tv2 (nt + 1) (T ++ cs)) (hl : w1.heap[lb]? = some (.cells (LC.setIfInBounds (lo + 3) (.int .i64 (ex + 1))) 73 (0, 0))) (hf : Fr (rb :: lb :: tv.ownBlock.toList) w w1) (hs : Same w tv tv2) :
    RcI M B D X rb lb lo bp wS w1 (ex + 1) (nt + 1) (T ++ cs) nk Kc L tv2 ev g cap F (LC.setIfInBounds (lo + 3) (.int .i64 (ex + 1))) := by
  have kb : ∀ k : Nat, k < w.heap.size → k ≠ rb → k ≠ lb → (∀ j, tv.ownBlock = some j → j ≠ k) → w1.heap[k]? = w.heap[k]? := fun k hk h1 h2 h3 => hf.block k hk (by
    simp only [List.mem_cons, Option.mem_toList, not_or]
    exact ⟨h1, h2, fun q => h3 k q rfl⟩)
  have kn : ∀ k : Nat, k < w.heap.size → ¬ M k → w1.heap[k]? = w.heap[k]? := fun k hk hm => kb k hk (fun c => hm (by rw [c]; exact h.mr)) (fun c => hm (by rw [c]; exact h.ml)) (fun j hj c => hm (by rw [← c]; exact h.mt j hj))
  have lr : rb < w.heap.size := lt_of_blk h.rc
  have ll : lb < w.heap.size := lt_of_blk h.lk
  have lbp : bp < w.heap.size := lt_of_blk h.pq.pl.blk
  have lg : g < w.heap.size := by obtain ⟨_, q, _⟩ := h.pq.pl.row; exact lt_of_blk q
  have hL := (Array.getElem?_eq_some_iff.1 h.l3).1
  have hL4 := (Array.getElem?_eq_some_iff.1 h.l4).1
  have elb : ∀ b ∈ L, w1.heap[b.b]? = w.heap[b.b]? := fun b hb => by
    obtain ⟨q1, q2, q3, q4⟩ := h.el b hb
    exact kn b.b (lt_of_cell (q1 0 _ (show (erC (D b) (X b))[0]? = some (.int .i64 (D b).sq) from rfl))) q3
  have pq1 : Pq w1 bp g L.length cap F L := ⟨h.pq.pl.blocks (kb bp lbp h.d2 h.d3 (fun k hk => (h.dt k hk).2.2.1)) (kb g lg h.d4 h.d5 (fun k hk => (h.dt k hk).2.2.2)) (fun i hi => World.cell?_of_block (elb _ (h.pq.hs.mem i hi))), h.pq.hp, h.pq.hs, h.pq.inj⟩
  have nw : ∀ k, tv2.ownBlock = some k → tv.ownBlock = some k ∨ w.heap.size ≤ k := fun k hk => by
    rcases hs with q | ⟨j, q, hj⟩
    · exact Or.inl (by rw [← q]; exact hk)
    · rw [q] at hk; simp only [Option.some.injEq] at hk; exact Or.inr (by omega)
  refine ⟨hr, ho, hl, by rw [set_get hL, if_pos rfl], by rw [set_get hL, if_neg (by omega)]; exact h.l4, own_blocks h.ew (fun k hk => kb k (h.ew.lt k hk).2 (h.de k hk).1 (h.de k hk).2.1 (fun j hj c => h.te j hj (by rw [c]; exact hk))), pq1, h.mr, h.ml, h.mb, h.mg, fun k hk => (nw k hk).elim (h.mt k) (fun c => h.mn k (Nat.le_trans h.sz c)), h.me, h.mn, h.d1, h.d2, h.d3, h.d4, h.d5, fun k hk => (nw k hk).elim (h.dt k) (fun c => by omega), h.de, fun k hk hk2 => (nw k hk).elim (fun c => h.te k c hk2) (fun c => by have := (h.ew.lt k hk2).2; omega), fun b hb => ⟨rng_blk (h.el b hb).1 (elb b hb), (h.el b hb).2⟩, Nat.le_trans h.sz hf.size, fun k hk hm => (kn k (Nat.lt_of_lt_of_le hk h.sz) hm).trans (h.fr k hk hm), ⟨hf.os.trans h.env.1, hf.tape.trans h.env.2.1, hf.output.trans h.env.2.2⟩, h.hB⟩
theorem RcI.keep {M : Nat → Prop} {B : Nat} {D : El → Er} {X : El → Fx} {rb lb lo bp : Nat} {wS w w1 : World} {ex : Int} {nt : Nat} {T : List Value} {nk : Nat} {Kc : List Value} {L : List El} {tv ev ev2 : Value} {g cap : Nat} {F : Nat → El} {LC : Array Value} {cs : List Value}
    (h : RcI M B D X rb lb lo bp wS w ex nt T nk Kc L tv ev g cap F LC) (hr : Rcv w1 rb lb lo tv) (ho : w1.ownsRow B 87 54 ev2 (nk + 1) (Kc ++ cs)) (hl : w1.heap[lb]? = some (.cells (LC.setIfInBounds (lo + 4) ev2) 73 (0, 0))) (hf : Fr (lb :: ev.ownBlock.toList) w w1) (hs : Same w ev ev2) :
    RcI M B D X rb lb lo bp wS w1 ex nt T (nk + 1) (Kc ++ cs) L tv ev2 g cap F (LC.setIfInBounds (lo + 4) ev2) := by
  have kb : ∀ k : Nat, k < w.heap.size → k ≠ rb → k ≠ lb → (∀ j, ev.ownBlock = some j → j ≠ k) → w1.heap[k]? = w.heap[k]? := fun k hk _ h2 h3 => hf.block k hk (by
    simp only [List.mem_cons, Option.mem_toList, not_or]
    exact ⟨h2, fun q => h3 k q rfl⟩)
  have kn : ∀ k : Nat, k < w.heap.size → ¬ M k → w1.heap[k]? = w.heap[k]? := fun k hk hm => kb k hk (fun c => hm (by rw [c]; exact h.mr)) (fun c => hm (by rw [c]; exact h.ml)) (fun j hj c => hm (by rw [← c]; exact h.me j hj))
  have lr : rb < w.heap.size := lt_of_blk h.rc
  have ll : lb < w.heap.size := lt_of_blk h.lk
  have lbp : bp < w.heap.size := lt_of_blk h.pq.pl.blk
  have lg : g < w.heap.size := by obtain ⟨_, q, _⟩ := h.pq.pl.row; exact lt_of_blk q
  have hL := (Array.getElem?_eq_some_iff.1 h.l3).1
  have hL4 := (Array.getElem?_eq_some_iff.1 h.l4).1
  have elb : ∀ b ∈ L, w1.heap[b.b]? = w.heap[b.b]? := fun b hb => by
    obtain ⟨q1, q2, q3, q4⟩ := h.el b hb
    exact kn b.b (lt_of_cell (q1 0 _ (show (erC (D b) (X b))[0]? = some (.int .i64 (D b).sq) from rfl))) q3
  have pq1 : Pq w1 bp g L.length cap F L := ⟨h.pq.pl.blocks (kb bp lbp h.d2 h.d3 (fun k hk => (h.de k hk).2.2.1)) (kb g lg h.d4 h.d5 (fun k hk => (h.de k hk).2.2.2)) (fun i hi => World.cell?_of_block (elb _ (h.pq.hs.mem i hi))), h.pq.hp, h.pq.hs, h.pq.inj⟩
  have nw : ∀ k, ev2.ownBlock = some k → ev.ownBlock = some k ∨ w.heap.size ≤ k := fun k hk => by
    rcases hs with q | ⟨j, q, hj⟩
    · exact Or.inl (by rw [← q]; exact hk)
    · rw [q] at hk; simp only [Option.some.injEq] at hk; exact Or.inr (by omega)
  refine ⟨hr, own_blocks h.tw (fun k hk => kb k (h.tw.lt k hk).2 (h.dt k hk).1 (h.dt k hk).2.1 (fun j hj c => h.te k hk (by rw [← c]; exact hj))), hl, by rw [set_get hL4, if_neg (by omega)]; exact h.l3, by rw [set_get hL4, if_pos rfl], ho, pq1, h.mr, h.ml, h.mb, h.mg, h.mt, fun k hk => (nw k hk).elim (h.me k) (fun c => h.mn k (Nat.le_trans h.sz c)), h.mn, h.d1, h.d2, h.d3, h.d4, h.d5, h.dt, fun k hk => (nw k hk).elim (h.de k) (fun c => by omega), fun k hk hk2 => (nw k hk2).elim (fun c => h.te k hk c) (fun c => by have := (h.tw.lt k hk).2; omega), fun b hb => ⟨rng_blk (h.el b hb).1 (elb b hb), (h.el b hb).2⟩, Nat.le_trans h.sz hf.size, fun k hk hm => (kn k (Nat.lt_of_lt_of_le hk h.sz) hm).trans (h.fr k hk hm), ⟨hf.os.trans h.env.1, hf.tape.trans h.env.2.1, hf.output.trans h.env.2.2⟩, h.hB⟩
end Go.Proofs.Ytgiicendejgklaa

/- What is told and what is kept of what stands in order (runE), plainly. -/
namespace Go.Proofs.Ytgiicendejgklaa
open Go.RowKit Go.Maps
theorem runE_map {α β : Type} (f : α → β) (sq : α → Int) (sq' : β → Int) : ∀ (l : List α) (ex : Int), (∀ a ∈ l, sq' (f a) = sq a) → runE sq' ex (l.map f) = ((runE sq ex l).1.map f, (runE sq ex l).2.1, (runE sq ex l).2.2.map f) := by
  intro l
  induction l with
  | nil => intro ex _; rfl
  | cons a m ih =>
    intro ex h
    have h1 := h a (by simp)
    have h2 : ∀ b ∈ m, sq' (f b) = sq b := fun b hb => h b (by simp [hb])
    simp only [List.map_cons, runE, h1]
    by_cases c : sq a = ex
    · simp [c, ih (ex + 1) h2]
    · simp [c, ih ex h2]
theorem runE_far {α : Type} (sq : α → Int) : ∀ (l : List α) (ex : Int), (∀ a ∈ l, ex < sq a) → runE sq ex l = ([], ex, l) := by
  intro l
  induction l with
  | nil => intro ex _; rfl
  | cons a m ih =>
    intro ex h
    have h1 := h a (by simp)
    simp only [runE, if_neg (show ¬ sq a = ex by omega), ih ex (fun b hb => h b (by simp [hb]))]
theorem runE_ok {α : Type} (sq : α → Int) : ∀ (l : List α) (ex : Int), l.Pairwise (fun a b => sq a < sq b) → (∀ a ∈ l, ex ≤ sq a) →
    l = (runE sq ex l).1 ++ (runE sq ex l).2.2 ∧ (runE sq ex l).2.1 = ex + ((runE sq ex l).1.length : Int) ∧ (∀ a ∈ (runE sq ex l).2.2, (runE sq ex l).2.1 < sq a) ∧ ∀ (i : Nat) a, (runE sq ex l).1[i]? = some a → sq a = ex + (i : Int) := by
  intro l
  induction l with
  | nil => intro ex _ _; exact ⟨rfl, by simp [runE], by simp [runE], by simp [runE]⟩
  | cons a m ih =>
    intro ex hp hl
    obtain ⟨p1, p2⟩ := List.pairwise_cons.1 hp
    have h1 := hl a (by simp)
    by_cases c : sq a = ex
    · obtain ⟨q1, q2, q3, q4⟩ := ih (ex + 1) p2 (fun b hb => by have := p1 b hb; omega)
      simp only [runE, if_pos c]
      refine ⟨by rw [List.cons_append, ← q1], by rw [q2, List.length_cons]; omega, q3, fun i b hi => ?_⟩
      cases i with
      | zero => simp only [List.getElem?_cons_zero, Option.some.injEq] at hi; subst hi; simp [c]
      | succ i => rw [List.getElem?_cons_succ] at hi; rw [q4 i b hi]; omega
    · have hf : ∀ b ∈ a :: m, ex < sq b := fun b hb => by
        rcases List.mem_cons.1 hb with rfl | q
        · omega
        · have := p1 b q; omega
      rw [runE_far sq _ ex hf]
      exact ⟨by simp, by simp, hf, by simp⟩
end Go.Proofs.Ytgiicendejgklaa

/- Something comes among what rises: its place; told and kept, in memory. -/
namespace Go.Proofs.Ytgiicendejgklaa
open Go.RowKit Go.Maps
theorem place_ex {α : Type} (sq : α → Int) (s : Int) : ∀ l : List α, l.Pairwise (fun a b => sq a < sq b) → (∀ a ∈ l, sq a ≠ s) → ∃ k, k ≤ l.length ∧ (∀ a ∈ l.take k, sq a < s) ∧ ∀ a ∈ l.drop k, s < sq a := by
  intro l
  induction l with
  | nil => intro _ _; exact ⟨0, by simp, by simp, by simp⟩
  | cons a m ih =>
    intro hp hn
    obtain ⟨p1, p2⟩ := List.pairwise_cons.1 hp
    have h1 := hn a (by simp)
    by_cases c : sq a < s
    · obtain ⟨k, k1, k2, k3⟩ := ih p2 (fun b hb => hn b (by simp [hb]))
      refine ⟨k + 1, by simp only [List.length_cons]; omega, fun b hb => ?_, fun b hb => ?_⟩
      · rw [List.take_succ_cons] at hb
        rcases List.mem_cons.1 hb with rfl | q
        · exact c
        · exact k2 b q
      · rw [List.drop_succ_cons] at hb; exact k3 b hb
    · refine ⟨0, by simp, by simp, fun b hb => ?_⟩
      rw [List.drop_zero] at hb
      rcases List.mem_cons.1 hb with rfl | q
      · omega
      · have := p1 b q; omega
theorem ins_rise {α : Type} (sq : α → Int) {l : List α} {k : Nat} {x : α} (hp : l.Pairwise (fun a b => sq a < sq b)) (h1 : ∀ a ∈ l.take k, sq a < sq x) (h2 : ∀ a ∈ l.drop k, sq x < sq a) : (insAt l k x).Pairwise (fun a b => sq a < sq b) := by
  unfold insAt
  have e := List.take_append_drop k l
  rw [← e] at hp
  obtain ⟨q1, q2, q3⟩ := List.pairwise_append.1 hp
  refine List.pairwise_append.2 ⟨q1, List.pairwise_cons.2 ⟨h2, q2⟩, fun a ha b hb => ?_⟩
  rcases List.mem_cons.1 hb with rfl | q
  · exact h1 a ha
  · exact q3 a ha b q
theorem ins_mem {α : Type} {l : List α} {k : Nat} {x a : α} (h : a ∈ insAt l k x) : a = x ∨ a ∈ l := by
  unfold insAt at h
  simp only [List.mem_append, List.mem_cons] at h
  rcases h with q | q | q
  · exact Or.inr (List.mem_of_mem_take q)
  · exact Or.inl q
  · exact Or.inr (List.mem_of_mem_drop q)
theorem ins_map {α β : Type} (f : α → β) (l : List α) (k : Nat) (x : α) : (insAt l k x).map f = insAt (l.map f) k (f x) := by
  unfold insAt
  rw [List.map_append, List.map_cons, List.map_take, List.map_drop]
end Go.Proofs.Ytgiicendejgklaa

/- What a pile points at: which early it is. -/
namespace Go.Proofs.Ytgiicendejgklaa
open Go.RowKit Go.Maps
def dEl (eo bx : Nat) (l : List Er) (e : Er) (a : El) : Er := if a.b = bx then e else (l[(a.o - eo) / 54]?).getD e
def xEl (eo bx : Nat) (xs : List Fx) (y : Fx) (a : El) : Fx := if a.b = bx then y else (xs[(a.o - eo) / 54]?).getD y
theorem dEl_at {eg eo bx : Nat} {l : List Er} {e a : Er} {i : Nat} (hb : eg ≠ bx) (ha : l[i]? = some a) : dEl eo bx l e (pF eg eo l i) = a := by
  unfold dEl pF
  simp only [if_neg hb]
  rw [Nat.add_sub_cancel_left, Nat.mul_div_cancel _ (by decide), ha]; rfl
theorem xEl_at {eg eo bx : Nat} {l : List Er} {xs : List Fx} {y x : Fx} {i : Nat} (hb : eg ≠ bx) (hx : xs[i]? = some x) : xEl eo bx xs y (pF eg eo l i) = x := by
  unfold xEl pF
  simp only [if_neg hb]
  rw [Nat.add_sub_cancel_left, Nat.mul_div_cancel _ (by decide), hx]; rfl
theorem elsOf_mem {eg eo : Nat} {l : List Er} {a : El} (h : a ∈ elsOf eg eo l) : ∃ i, i < l.length ∧ a = pF eg eo l i := by
  unfold elsOf at h
  obtain ⟨i, hi, e⟩ := List.mem_map.1 h
  exact ⟨i, List.mem_range.1 hi, e.symm⟩
theorem elsOf_map {eg eo bx : Nat} {l : List Er} {e : Er} (hb : l = [] ∨ eg ≠ bx) : (elsOf eg eo l).map (dEl eo bx l e) = l := by
  apply List.ext_getElem?
  intro i
  rw [List.getElem?_map]
  rcases Nat.lt_or_ge i l.length with c | c
  · have hb2 : eg ≠ bx := hb.resolve_left (fun q => by rw [q] at c; exact absurd c (by simp))
    rw [elsOf_get c, Option.map_some, dEl_at hb2 (List.getElem?_eq_getElem c), List.getElem?_eq_getElem c]
  · rw [List.getElem?_eq_none (l := l) c, List.getElem?_eq_none (by simpa [elsOf] using c)]; rfl
theorem els_el {M : Nat → Prop} {w w' : World} {eg eo bx k : Nat} {l : List Er} {xs : List Fx} {e : Er} {y : Fx} (h : ∀ (i : Nat) a, l[i]? = some a → ∃ x, xs[i]? = some x ∧ FdR w a.fd x ∧ w.rangeAt eg (eo + i * 54) (erC a x))
    (hb : l = [] ∨ eg ≠ bx) (hg : l = [] ∨ (w'.heap[eg]? = w.heap[eg]? ∧ ¬ M eg)) (hM : ¬ M bx) (hc : w'.rangeAt bx 0 (erC e y)) (h1 : ∀ u ∈ erC e y, u.oneCell' = true) :
    ∀ a ∈ insAt (elsOf eg eo l) k ⟨bx, 0, e.sq⟩, w'.rangeAt a.b a.o (erC (dEl eo bx l e a) (xEl eo bx xs y a)) ∧ (dEl eo bx l e a).sq = a.sq ∧ ¬ M a.b ∧ (∀ u ∈ erC (dEl eo bx l e a) (xEl eo bx xs y a), u.oneCell' = true) := by
  intro a ha
  rcases ins_mem ha with rfl | q
  · have e1 : dEl eo bx l e ⟨bx, 0, e.sq⟩ = e := by unfold dEl; simp
    have e2 : xEl eo bx xs y ⟨bx, 0, e.sq⟩ = y := by unfold xEl; simp
    rw [e1, e2]
    exact ⟨hc, rfl, hM, h1⟩
  · obtain ⟨i, hi, rfl⟩ := elsOf_mem q
    have hne : l ≠ [] := fun c => by rw [c] at hi; exact absurd hi (by simp)
    have hb2 := hb.resolve_left hne
    obtain ⟨g1, g2⟩ := hg.resolve_left hne
    have ha2 := List.getElem?_eq_getElem hi
    obtain ⟨x, hx, hR, hrg⟩ := h i _ ha2
    rw [dEl_at hb2 ha2, xEl_at hb2 hx]
    refine ⟨rng_blk hrg g1, ?_, g2, er_one hR⟩
    unfold pF; rw [ha2]; rfl
end Go.Proofs.Ytgiicendejgklaa

/- Where receive's loop begins. -/
namespace Go.Proofs.Ytgiicendejgklaa
open Go.RowKit Go.Maps
theorem own_baseQ {w : World} {B B' : Nat} {e : TypeId} {c n : Nat} {v : Value} {xs : List Value} (h : w.ownsRow B e c v n xs) (hb : B' ≤ B) : w.ownsRow B' e c v n xs := by
  refine ⟨h.1, h.2.imp id ?_⟩
  rintro ⟨g, cap, cur, q1, q2, q3⟩
  exact ⟨g, cap, cur, q1, Nat.le_trans hb q2, q3⟩
theorem RcI.start {w W zz w3 w4 W5 W6 : World} {lb lo bp g g' c' N k eg eo : Nat} {l : Lk} {x : Lx} {e : Er} {y : Fx} {LC : Array Value} {F : Nat → El} {ev0 : Value}
    (hlb : w.heap[lb]? = some (.cells LC 73 (0, 0))) (hLC : ∀ j u, (lkC l x.qv x.ev)[j]? = some u → LC[lo + j]? = some u) (hWs : W.heap.size = w.heap.size + 1) (hWb : Below w.heap.size w W)
    (hbx : W.heap[w.heap.size]? = some (.cells (erC e y).toArray 87 (0, 0))) (h1 : ∀ u ∈ erC e y, u.oneCell' = true) (hz : Below W.heap.size W zz) (hb3 : Below zz.heap.size zz w3) (hg3 : zz.heap.size ≤ g) (hbp3 : zz.heap.size ≤ bp) (hf : Fr [bp, g] w3 w4) (hgg : g' = g ∨ w3.heap.size ≤ g')
    (hpq : Pq w4 bp g' N c' F (insAt (elsOf eg eo l.ea) k ⟨w.heap.size, 0, e.sq⟩)) (hW5 : W5 = w4.alloc (.cells #[.pointer (some ⟨lb, lo, none⟩), .slice none 0 0] 104)) (hg6 : W5.grownBy W6 none) (hev : ev0 = .slice (some ⟨W5.heap.size, 0, none⟩) 0 N)
    (ho6 : W6.ownsRow W5.heap.size 87 54 ev0 0 []) (hel : ∀ (i : Nat) a, l.ea[i]? = some a → ∃ z, x.ex[i]? = some z ∧ FdR zz a.fd z ∧ zz.rangeAt eg (eo + i * 54) (erC a z)) (heg : l.ea = [] ∨ (eg < w.heap.size ∧ eg ≠ lb)) :
    RcI (fun k => k = lb ∨ W.heap.size ≤ k) W.heap.size (dEl eo w.heap.size l.ea e) (xEl eo w.heap.size x.ex y) w4.heap.size lb lo bp W (W6.setCell ⟨lb, lo + 4, none⟩ ev0) l.ex 0 [] 0 [] (insAt (elsOf eg eo l.ea) k ⟨w.heap.size, 0, e.sq⟩) (.slice none 0 0) ev0 g' c' F (LC.setIfInBounds (lo + 4) ev0) := by
  have ll : lb < w.heap.size := lt_of_blk hlb
  have s1 := hz.size
  have s2 := hb3.size
  have s3 := hf.size
  have b5 : Below w4.heap.size w4 W5 := by rw [hW5]; exact bwA _ _
  have s5 : W5.heap.size = w4.heap.size + 1 := by rw [hW5]; simp
  have b6 : Below W5.heap.size W5 W6 := (Fr.ofGrown hg6).toBelow
  have s6 := b6.size
  have lbp : bp < w4.heap.size := lt_of_blk hpq.pl.blk
  have lg : g' < w4.heap.size := by obtain ⟨_, q, _⟩ := hpq.pl.row; exact lt_of_blk q
  have b46 : Below w4.heap.size w4 W6 := bw_tr b5 b6
  -- a block that lay there ahead of the pile
  have old : ∀ j : Nat, j < W.heap.size → j ≠ lb → (W6.setCell ⟨lb, lo + 4, none⟩ ev0).heap[j]? = W.heap[j]? := fun j hj hne => by
    rw [other_c hne, b46.block j (by omega), hf.block j (by omega) (by simp only [List.mem_cons, List.not_mem_nil, or_false, not_or]; omega), hb3.block j (by omega), hz.block j hj]
  have l6 : W6.heap[lb]? = some (.cells LC 73 (0, 0)) := by
    rw [b46.block lb (by omega), hf.block lb (by omega) (by simp only [List.mem_cons, List.not_mem_nil, or_false, not_or]; omega), hb3.block lb (by omega), hz.block lb (by omega), hWb.block lb ll]; exact hlb
  have r5 : W5.heap[w4.heap.size]? = some (.cells #[.pointer (some ⟨lb, lo, none⟩), .slice none 0 0] 104 (0, 0)) := by rw [hW5]; exact heap_alloc_new _ _
  have r6 := kept_b r5 (lt_of_blk r5) b6
  have e3 : LC[lo + 3]? = some (.int .i64 l.ex) := hLC 3 _ rfl
  have e4 := hLC 4 _ rfl
  have z4 := (Array.getElem?_eq_some_iff.1 e4).1
  have hLn : (insAt (elsOf eg eo l.ea) k (⟨w.heap.size, 0, e.sq⟩ : El)).length = N := hpq.hs.len
  have hne : ev0.ownBlock = some W5.heap.size := by rw [hev]; rfl
  have hgW : W.heap.size ≤ g' := by rcases hgg with q | q <;> omega
  have hels := els_el (M := fun k => k = lb ∨ W.heap.size ≤ k) (w := zz) (w' := W6.setCell ⟨lb, lo + 4, none⟩ ev0) (eg := eg) (eo := eo) (bx := w.heap.size) (k := k) (l := l.ea) (xs := x.ex) (e := e) (y := y) hel (heg.imp id (fun q => by omega)) (heg.imp id (fun q => ⟨by rw [old eg (by omega) q.2, hz.block eg (by omega)], by omega⟩)) (by omega)
    (blk_rngQ (by rw [old w.heap.size (by omega) (by omega)]; exact hbx) (fun j u hj => by rw [Nat.zero_add]; exact hj)) h1
  have o7 : (W6.setCell ⟨lb, lo + 4, none⟩ ev0).ownsRow W5.heap.size 87 54 ev0 0 [] := own_blocks ho6 (fun j hj => by rw [hne] at hj; simp only [Option.some.injEq] at hj; exact other_c (by omega))
  have F7 : Fr [lb] W6 (W6.setCell ⟨lb, lo + 4, none⟩ ev0) := (Fr.refl [lb] W6).setCell (Or.inr (by simp)) _
  refine ⟨?_, World.ownsRow_nil _ _ _ _, poke_b l6 _, by rw [set_get z4, if_neg (by omega)]; exact e3, by rw [set_get z4, if_pos rfl], own_baseQ o7 (by omega), ?_, Or.inr (by omega), Or.inl rfl, Or.inr (by omega), Or.inr hgW, fun j hj => by simp [Value.ownBlock] at hj, fun j hj => by rw [hne] at hj; simp only [Option.some.injEq] at hj; exact Or.inr (by omega), fun j hj => Or.inr hj, by omega, by omega, by omega, by omega, by omega, fun j hj => by simp [Value.ownBlock] at hj, fun j hj => by rw [hne] at hj; simp only [Option.some.injEq] at hj; omega, fun j hj => by simp [Value.ownBlock] at hj, hels, ?_, fun j hj hm => old j hj (fun c => hm (Or.inl c)), ?_, Nat.le_refl _⟩
  · unfold Rcv; rw [other_c (by omega)]; exact r6
  · have kp : ∀ j : Nat, j < w4.heap.size → j ≠ lb → (W6.setCell ⟨lb, lo + 4, none⟩ ev0).heap[j]? = w4.heap[j]? := fun j hj hn => by rw [other_c hn, b46.block j hj]
    have hpl := hpq.pl
    rw [hLn]
    refine ⟨hpl.blocks (kp bp lbp (by omega)) (kp g' lg (by omega)) (fun i hi => ?_), hpq.hp, hpq.hs, hpq.inj⟩
    have hm := (hels _ (hpq.hs.mem i hi)).2.2.1
    exact World.cell?_of_block (kp _ (lt_of_cell (hpl.sq i hi)) (fun c => hm (Or.inl c)))
  · have := F7.size
    omega
  · exact ⟨F7.os.trans (b46.os.trans (hf.os.trans (hb3.os.trans hz.os))), F7.tape.trans (b46.tape.trans (hf.tape.trans (hb3.tape.trans hz.tape))), F7.output.trans (b46.output.trans (hf.output.trans (hb3.output.trans hz.output)))⟩
end Go.Proofs.Ytgiicendejgklaa

/- What receive tells and keeps, as lists that are read. No walk is in this text. -/
namespace Go.Proofs.Ytgiicendejgklaa
open Go.RowKit Go.Maps
theorem rd_own {α ξ : Type} {K : EK α ξ} {B : Nat} {w : World} {v : Value} {l : List α} {xs : List ξ} (hx : xs.length = l.length) (hrow : w.ownsRow B K.t K.c v l.length (cellK K l xs)) (he : ∀ (i : Nat) (a : α) (x : ξ), l[i]? = some a → xs[i]? = some x → K.R w a x) : RdL K w v l xs := by
  refine ⟨hx, he, ?_⟩
  obtain ⟨ad, cap, hv⟩ := own_slice hrow
  refine ⟨ad, cap, hv, ?_⟩
  rcases Nat.eq_zero_or_pos l.length with h0 | h0
  · exact Or.inl (List.eq_nil_of_length_eq_zero h0)
  · obtain ⟨g, cap', hv', hg, hc, _⟩ := own_open hrow h0
    rw [hv] at hv'
    cases hv'
    refine Or.inr ⟨g, 0, rfl, fun j u hj => ?_⟩
    rw [Nat.zero_add]
    exact own_cell hrow (by rw [hv]; rfl) hj
structure Abv (B : Nat) (w w2 : World) : Prop where
  size : w.heap.size ≤ w2.heap.size
  block : ∀ k, B ≤ k → k < w.heap.size → w2.heap[k]? = w.heap[k]?
theorem Abv.refl (B : Nat) (w : World) : Abv B w w := ⟨Nat.le_refl _, fun _ _ _ => rfl⟩
theorem Abv.trans {B : Nat} {w w1 w2 : World} (h : Abv B w w1) (k : Abv B w1 w2) : Abv B w w2 := ⟨Nat.le_trans h.size k.size, fun j h1 h2 => (k.block j h1 (Nat.lt_of_lt_of_le h2 h.size)).trans (h.block j h1 h2)⟩
theorem Abv.of {B : Nat} {w w2 : World} (h : Below w.heap.size w w2) : Abv B w w2 := ⟨h.size, fun k _ h2 => h.block k h2⟩
def RdA {α ξ : Type} (K : EK α ξ) (B : Nat) (w : World) (v : Value) (l : List α) (xs : List ξ) : Prop := ∀ w2, Abv B w w2 → RdL K w2 v l xs
theorem RdA.rd {α ξ : Type} {K : EK α ξ} {B : Nat} {w : World} {v : Value} {l : List α} {xs : List ξ} (h : RdA K B w v l xs) : RdL K w v l xs := h w (Abv.refl _ _)
theorem RdA.abv {α ξ : Type} {K : EK α ξ} {B : Nat} {w w2 : World} {v : Value} {l : List α} {xs : List ξ} (h : RdA K B w v l xs) (hb : Abv B w w2) : RdA K B w2 v l xs := fun w3 h3 => h w3 (hb.trans h3)
theorem RdA.mono {α ξ : Type} {K : EK α ξ} {B B' : Nat} {w : World} {v : Value} {l : List α} {xs : List ξ} (h : RdA K B w v l xs) (hb : B' ≤ B) : RdA K B' w v l xs := fun w2 h2 => h w2 ⟨h2.size, fun k h3 h4 => h2.block k (Nat.le_trans hb h3) h4⟩
theorem rda_own {α ξ : Type} {K : EK α ξ} {B : Nat} {w : World} {v : Value} {l : List α} {xs : List ξ} (hx : xs.length = l.length) (hrow : w.ownsRow B K.t K.c v l.length (cellK K l xs)) (he : ∀ w2, Abv B w w2 → ∀ (i : Nat) (a : α) (x : ξ), l[i]? = some a → xs[i]? = some x → K.R w2 a x) : RdA K B w v l xs := fun w2 h2 =>
  rd_own hx (own_blocks hrow (fun k hk => h2.block k (World.ownsRow.lt hrow k hk).1 (World.ownsRow.lt hrow k hk).2)) (he w2 h2)
theorem own_monoA {w : World} {B B' : Nat} {e : TypeId} {c n : Nat} {v : Value} {xs : List Value} (h : w.ownsRow B e c v n xs) (hb : B' ≤ B) : w.ownsRow B' e c v n xs := own_baseQ h hb
def tellC (D : El → Er) (X : El → Fx) (A : List El) : List Value := cellK kFd (A.map (fun a => (D a).fd)) (A.map X)
def keepC (D : El → Er) (X : El → Fx) (A : List El) : List Value := cellK kEr (A.map D) (A.map X)
theorem tellC_snoc (D : El → Er) (X : El → Fx) (A : List El) (a : El) : tellC D X (A ++ [a]) = tellC D X A ++ fdC (D a).fd (X a) := by
  unfold tellC
  rw [List.map_append, List.map_append]
  exact cellK_snocM (K := kFd) (by simp) _ _
theorem keepC_snoc (D : El → Er) (X : El → Fx) (A : List El) (a : El) : keepC D X (A ++ [a]) = keepC D X A ++ erC (D a) (X a) := by
  unfold keepC
  rw [List.map_append, List.map_append]
  exact cellK_snocM (K := kEr) (by simp) _ _
theorem of_fr {B : Nat} {w w' : World} {f : Fd} {x : Fx} {lb : Nat} (h : OF B w f x) (hn : ∀ k ∈ fxZ x, k ≠ lb) (hf : ∀ k, B ≤ k → k < w.heap.size → k ≠ lb → w'.heap[k]? = w.heap[k]?) : OF B w' f x :=
  OF.keep h (fun k hk => hf k (OF.lt h k hk).1 (OF.lt h k hk).2 (hn k hk))
structure RecvQ (B : Nat) (w w' : World) (lb lo : Nat) (LC : Array Value) (R : List Er × Int × List Er) (tv ev : Value) (tx kx : List Fx) : Prop where
  td : RdA kFd B w' tv (R.1.map (fun a => a.fd)) tx
  kd : RdA kEr B w' ev R.2.2 kx
  lk : ∃ LC' : Array Value, w'.heap[lb]? = some (.cells LC' 73 (0, 0)) ∧ LC'[lo + 3]? = some (.int .i64 R.2.1) ∧ LC'[lo + 4]? = some ev ∧ ∀ j, j ≠ lo + 3 → j ≠ lo + 4 → LC'[j]? = LC[j]?
  fr : Fr [lb] w w'
structure RcL (M : Nat → Prop) (B : Nat) (D : El → Er) (X : El → Fx) (rb lb lo bp : Nat) (wS w : World) (LC : Array Value) (R : List El × Int × List El) (m : Nat) (ex : Int) (A K L : List El) (tv ev : Value) (g cap : Nat) (F : Nat → El) (LC' : Array Value) : Prop where
  i : RcI M B D X rb lb lo bp wS w ex A.length (tellC D X A) K.length (keepC D X K) L tv ev g cap F LC'
  up : L.Pairwise (fun a b => a.sq < b.sq)
  e1 : R.1 = A ++ (runE El.sq ex L).1
  e2 : R.2.1 = (runE El.sq ex L).2.1
  e3 : R.2.2 = K ++ (runE El.sq ex L).2.2
  n : A.length + K.length + L.length ≤ m
  x0 : 0 ≤ ex
  x1 : ex ≤ 1099511627776
  sq : ∀ a ∈ L, a.sq < 1099511627776
  o : ∀ j, j ≠ lo + 3 → j ≠ lo + 4 → LC'[j]? = LC[j]?
theorem set_other {LC : Array Value} {i j : Nat} {u : Value} (h : j ≠ i) : (LC.setIfInBounds i u)[j]? = LC[j]? := by
  rw [Array.getElem?_setIfInBounds_ne (by omega)]
theorem RcL.tell {M : Nat → Prop} {B : Nat} {D : El → Er} {X : El → Fx} {rb lb lo bp : Nat} {wS w w1 w2 : World} {LC : Array Value} {R : List El × Int × List El} {m : Nat} {ex : Int} {A K L : List El} {a : El} {tv ev tv2 : Value} {g cap : Nat} {F F' : Nat → El} {LC' : Array Value}
    (h : RcL M B D X rb lb lo bp wS w LC R m ex A K (a :: L) tv ev g cap F LC') (h1 : RcI M B D X rb lb lo bp wS w1 ex A.length (tellC D X A) K.length (keepC D X K) L tv ev g cap F' LC') (hc : a.sq = ex)
    (hr : Rcv w2 rb lb lo tv2) (ho : w2.ownsRow B 43 53 tv2 (A.length + 1) (tellC D X A ++ fdC (D a).fd (X a))) (hl : w2.heap[lb]? = some (.cells (LC'.setIfInBounds (lo + 3) (.int .i64 (ex + 1))) 73 (0, 0))) (hf : Fr (rb :: lb :: tv.ownBlock.toList) w1 w2) (hs : Same w1 tv tv2) :
    RcL M B D X rb lb lo bp wS w2 LC R m (ex + 1) (A ++ [a]) K L tv2 ev g cap F' (LC'.setIfInBounds (lo + 3) (.int .i64 (ex + 1))) := by
  have hi := h1.tell hr ho hl hf hs
  have hq := h.sq a (by simp)
  refine ⟨?_, (List.pairwise_cons.1 h.up).2, ?_, ?_, ?_, ?_, by have := h.x0; omega, by omega, fun b hb => h.sq b (List.mem_cons_of_mem _ hb), fun j hj hj2 => ?_⟩
  · rw [tellC_snoc]
    simpa using hi
  · rw [h.e1]; simp [runE, hc]
  · rw [h.e2]; simp [runE, hc]
  · rw [h.e3]; simp [runE, hc]
  · have := h.n
    simp only [List.length_cons, List.length_append, List.length_nil] at this ⊢
    omega
  · rw [set_other hj]; exact h.o j hj hj2
theorem RcL.keep {M : Nat → Prop} {B : Nat} {D : El → Er} {X : El → Fx} {rb lb lo bp : Nat} {wS w w1 w2 : World} {LC : Array Value} {R : List El × Int × List El} {m : Nat} {ex : Int} {A K L : List El} {a : El} {tv ev ev2 : Value} {g cap : Nat} {F F' : Nat → El} {LC' : Array Value}
    (h : RcL M B D X rb lb lo bp wS w LC R m ex A K (a :: L) tv ev g cap F LC') (h1 : RcI M B D X rb lb lo bp wS w1 ex A.length (tellC D X A) K.length (keepC D X K) L tv ev g cap F' LC') (hc : ¬ a.sq = ex)
    (hr : Rcv w2 rb lb lo tv) (ho : w2.ownsRow B 87 54 ev2 (K.length + 1) (keepC D X K ++ erC (D a) (X a))) (hl : w2.heap[lb]? = some (.cells (LC'.setIfInBounds (lo + 4) ev2) 73 (0, 0))) (hf : Fr (lb :: ev.ownBlock.toList) w1 w2) (hs : Same w1 ev ev2) :
    RcL M B D X rb lb lo bp wS w2 LC R m ex A (K ++ [a]) L tv ev2 g cap F' (LC'.setIfInBounds (lo + 4) ev2) := by
  have hi := h1.keep hr ho hl hf hs
  refine ⟨?_, (List.pairwise_cons.1 h.up).2, ?_, ?_, ?_, ?_, h.x0, h.x1, fun b hb => h.sq b (List.mem_cons_of_mem _ hb), fun j hj hj2 => ?_⟩
  · rw [keepC_snoc]
    simpa using hi
  · rw [h.e1]; simp [runE, hc]
  · rw [h.e2]; simp [runE, hc]
  · rw [h.e3]; simp [runE, hc]
  · have := h.n
    simp only [List.length_cons, List.length_append, List.length_nil] at this ⊢
    omega
  · rw [set_other hj2]; exact h.o j hj hj2
theorem RcL.fin {lb lo : Nat} {B B1 : Nat} {D : El → Er} {X : El → Fx} {rb bp : Nat} {w wS wr : World} {LC : Array Value} {R : List El × Int × List El} {m : Nat} {ex : Int} {A K : List El} {tv ev : Value} {g cap : Nat} {F : Nat → El} {LC' : Array Value}
    (h : RcL (fun k => k = lb ∨ wS.heap.size ≤ k) B D X rb lb lo bp wS wr LC R m ex A K [] tv ev g cap F LC') (hWb : Below w.heap.size w wS) (hB : B1 ≤ B) (hD : ∀ V, Abv B1 wr V → ∀ a, FdR V (D a).fd (X a) ∧ SmF (D a).fd) :
    RecvQ B1 w wr lb lo LC (R.1.map D, R.2.1, R.2.2.map D) tv ev (A.map X) (K.map X) := by
  have e1 : R.1 = A := by rw [h.e1]; simp [runE]
  have e2 : R.2.1 = ex := by rw [h.e2]; simp [runE]
  have e3 : R.2.2 = K := by rw [h.e3]; simp [runE]
  rw [e1, e2, e3]
  refine ⟨?_, ?_, ⟨LC', h.i.lk, h.i.l3, h.i.l4, h.o⟩, h.i.env.1.trans hWb.os, h.i.env.2.1.trans hWb.tape, h.i.env.2.2.trans hWb.output, Nat.le_trans hWb.size h.i.sz, fun k hk hn => ?_⟩
  · have e : (A.map D).map (fun a => a.fd) = A.map (fun a => (D a).fd) := by rw [List.map_map]; rfl
    show RdA kFd B1 wr tv ((A.map D).map (fun a => a.fd)) (A.map X)
    rw [e]
    refine rda_own (K := kFd) (by simp) ?_ (fun V hV i a x ha hx => ?_)
    · rw [List.length_map]; exact own_monoA h.i.tw hB
    · rw [List.getElem?_map] at ha hx
      cases hA : A[i]? with
      | none => rw [hA] at ha; simp at ha
      | some z => rw [hA] at ha hx; simp at ha hx; subst ha; subst hx; exact hD V hV z
  · show RdA kEr B1 wr ev (K.map D) (K.map X)
    refine rda_own (K := kEr) (by simp) ?_ (fun V hV i a x ha hx => ?_)
    · rw [List.length_map]; exact own_monoA h.i.ew hB
    · rw [List.getElem?_map] at ha hx
      cases hA : K[i]? with
      | none => rw [hA] at ha; simp at ha
      | some z => rw [hA] at ha hx; simp at ha hx; subst ha; subst hx; exact hD V hV z
  · rw [h.i.fr k (Nat.lt_of_lt_of_le hk hWb.size) (by simp only [List.mem_cons, List.not_mem_nil, or_false] at hn; have := hWb.size; omega), hWb.block k hk]
def lenQ : Value → Nat
  | .slice _ n _ => n
  | _ => 0
theorem RcL.old {lb lo : Nat} {B : Nat} {D : El → Er} {X : El → Fx} {rb bp : Nat} {w wS wr : World} {LC : Array Value} {R : List El × Int × List El} {m : Nat} {ex : Int} {A K L : List El} {tv ev : Value} {g cap : Nat} {F : Nat → El} {LC' : Array Value}
    (h : RcL (fun k => k = lb ∨ wS.heap.size ≤ k) B D X rb lb lo bp wS wr LC R m ex A K L tv ev g cap F LC') (hWb : Below w.heap.size w wS) : ∀ j, j < w.heap.size → j ≠ lb → wr.heap[j]? = w.heap[j]? := fun k hk hn => by
  rw [h.i.fr k (Nat.lt_of_lt_of_le hk hWb.size) (by have := hWb.size; omega), hWb.block k hk]
theorem recv_start {w W zz w3 w4 W5 W6 : World} {B lb lo bp g g' c' N k eg eo : Nat} {l : Lk} {x : Lx} {e : Er} {y : Fx} {LC : Array Value} {F : Nat → El}
    (hlb : w.heap[lb]? = some (.cells LC 73 (0, 0))) (hLC : ∀ j u, (lkC l x.qv x.ev)[j]? = some u → LC[lo + j]? = some u) (hWs : W.heap.size = w.heap.size + 1) (hWb : Below w.heap.size w W)
    (hbx : W.heap[w.heap.size]? = some (.cells (erC e y).toArray 87 (0, 0))) (h1 : ∀ u ∈ erC e y, u.oneCell' = true) (hz : Below W.heap.size W zz) (hb3 : Below zz.heap.size zz w3) (hg3 : zz.heap.size ≤ g) (hbp3 : zz.heap.size ≤ bp) (hf : Fr [bp, g] w3 w4) (hgg : g' = g ∨ w3.heap.size ≤ g')
    (hpq : Pq w4 bp g' N c' F (insAt (elsOf eg eo l.ea) k ⟨w.heap.size, 0, e.sq⟩)) (hW5 : W5 = w4.alloc (.cells #[.pointer (some ⟨lb, lo, none⟩), .slice none 0 0] 104)) (hg6 : W5.grownBy W6 none)
    (ho6 : W6.ownsRow W5.heap.size 87 54 (.slice (some ⟨W5.heap.size, 0, none⟩) 0 N) 0 []) (hel : ∀ (i : Nat) a, l.ea[i]? = some a → ∃ z, x.ex[i]? = some z ∧ FdR zz a.fd z ∧ zz.rangeAt eg (eo + i * 54) (erC a z)) (hev : 0 < l.ea.length → ∃ c, x.ev = .slice (some ⟨eg, eo, none⟩) l.ea.length c)
    (hpw : (insAt l.ea k e).Pairwise (fun a b => a.sq < b.sq)) (x0 : 0 ≤ l.ex) (x1 : l.ex ≤ 1099511627776) (s1 : e.sq < 1099511627776) (hle : ∀ a ∈ l.ea, a.sq < 1099511627776)
    (HO : OL B w l x ∧ SmL l ∧ OF B w e.fd y ∧ SmF e.fd ∧ (∀ j ∈ lxZ x, j ≠ lb) ∧ ∀ j ∈ fxZ y, j ≠ lb) :
    ∃ (D : El → Er) (X : El → Fx), RcL (fun j => j = lb ∨ W.heap.size ≤ j) W.heap.size D X w4.heap.size lb lo bp W (W6.setCell ⟨lb, lo + 4, none⟩ (.slice (some ⟨W5.heap.size, 0, none⟩) 0 N)) LC (runE El.sq l.ex (insAt (elsOf eg eo l.ea) k ⟨w.heap.size, 0, e.sq⟩)) N l.ex [] [] (insAt (elsOf eg eo l.ea) k ⟨w.heap.size, 0, e.sq⟩) (.slice none 0 0) (.slice (some ⟨W5.heap.size, 0, none⟩) 0 N) g' c' F (LC.setIfInBounds (lo + 4) (.slice (some ⟨W5.heap.size, 0, none⟩) 0 N)) ∧
    (∀ V, (∀ j, B ≤ j → j < w.heap.size → j ≠ lb → V.heap[j]? = w.heap[j]?) → ∀ a, FdR V (D a).fd (X a) ∧ SmF (D a).fd) ∧ runE (fun a : Er => a.sq) l.ex (insAt l.ea k e) = ((runE El.sq l.ex (insAt (elsOf eg eo l.ea) k ⟨w.heap.size, 0, e.sq⟩)).1.map D, (runE El.sq l.ex (insAt (elsOf eg eo l.ea) k ⟨w.heap.size, 0, e.sq⟩)).2.1, (runE El.sq l.ex (insAt (elsOf eg eo l.ea) k ⟨w.heap.size, 0, e.sq⟩)).2.2.map D) := by
  obtain ⟨ho, hsm, hce, hse, hn1, hn2⟩ := HO
  have heg : l.ea = [] ∨ (eg < w.heap.size ∧ eg ≠ lb) := by
    rcases Nat.eq_zero_or_pos l.ea.length with q | q
    · exact Or.inl (List.eq_nil_of_length_eq_zero q)
    · obtain ⟨c, hc⟩ := hev q
      have hm : eg ∈ zK kEr x.ev x.ex := zK_row (by rw [hc]; rfl)
      exact Or.inr ⟨(ho.e.lt eg hm).2, hn1 eg (List.mem_append_right _ hm)⟩
  have hb : l.ea = [] ∨ eg ≠ w.heap.size := heg.imp id (fun q => by omega)
  have hst := RcI.start hlb hLC hWs hWb hbx h1 hz hb3 hg3 hbp3 hf hgg hpq hW5 hg6 rfl ho6 hel heg
  have hrise : l.ea.Pairwise (fun a b => a.sq < b.sq) := by
    have e0 := List.take_append_drop k l.ea
    unfold insAt at hpw
    obtain ⟨a1, a2, a3⟩ := List.pairwise_append.1 hpw
    rw [← e0]
    exact List.pairwise_append.2 ⟨a1, (List.pairwise_cons.1 a2).2, fun a ha b hb => a3 a ha b (List.mem_cons_of_mem _ hb)⟩
  have hbxD : dEl eo w.heap.size l.ea e ⟨w.heap.size, 0, e.sq⟩ = e := by unfold dEl; simp
  have hmapD : (insAt (elsOf eg eo l.ea) k (⟨w.heap.size, 0, e.sq⟩ : El)).map (dEl eo w.heap.size l.ea e) = insAt l.ea k e := by
    rw [ins_map, elsOf_map hb, hbxD]
  refine ⟨dEl eo w.heap.size l.ea e, xEl eo w.heap.size x.ex y, ⟨hst, ?_, by simp, by simp, by simp, ?_, x0, x1, fun a ha => ?_, fun j _ hj2 => set_other hj2⟩, fun V hV a => ?_, ?_⟩
  · have h2 : ((insAt (elsOf eg eo l.ea) k (⟨w.heap.size, 0, e.sq⟩ : El)).map (dEl eo w.heap.size l.ea e)).Pairwise (fun a b => a.sq < b.sq) := by rw [hmapD]; exact hpw
    rw [List.pairwise_map] at h2
    exact List.Pairwise.imp_of_mem (fun {a b} ha hb hh => by rw [(hst.el a ha).2.1, (hst.el b hb).2.1] at hh; exact hh) h2
  · rw [hpq.hs.len]; simp
  · have h2 := (hst.el a ha).2.1
    have h3 : dEl eo w.heap.size l.ea e a ∈ insAt l.ea k e := by rw [← hmapD]; exact List.mem_map_of_mem ha
    rw [← h2]
    rcases ins_mem h3 with q | q
    · rw [q]; exact s1
    · exact hle _ q
  · have oe : OF B V e.fd y := of_fr hce hn2 hV
    unfold dEl xEl
    by_cases c : a.b = w.heap.size
    · rw [if_pos c, if_pos c]; exact ⟨oe.rd hse, hse⟩
    · rw [if_neg c, if_neg c]
      rcases Nat.lt_or_ge ((a.o - eo) / 54) l.ea.length with d | d
      · have d2 : (a.o - eo) / 54 < x.ex.length := by rw [ho.e.xl]; exact d
        rw [List.getElem?_eq_getElem d, List.getElem?_eq_getElem d2, Option.getD_some, Option.getD_some]
        have o1 : OF B w (l.ea[(a.o - eo) / 54]'d).fd (x.ex[(a.o - eo) / 54]'d2) := ho.e.el _ _ _ (List.getElem?_eq_getElem d) (List.getElem?_eq_getElem d2)
        have sm := hsm.es _ (List.getElem_mem d)
        exact ⟨(of_fr o1 (fun j hj => hn1 j (List.mem_append_right _ (zK_el (K := kEr) (List.getElem?_eq_getElem d2) hj))) hV).rd sm, sm⟩
      · rw [List.getElem?_eq_none d, List.getElem?_eq_none (by rw [ho.e.xl]; exact d)]
        exact ⟨oe.rd hse, hse⟩
  · rw [← hmapD]
    exact runE_map (dEl eo w.heap.size l.ea e) (fun a : El => a.sq) (fun a : Er => a.sq) _ _ (fun a ha => (hst.el a ha).2.1)
end Go.Proofs.Ytgiicendejgklaa
