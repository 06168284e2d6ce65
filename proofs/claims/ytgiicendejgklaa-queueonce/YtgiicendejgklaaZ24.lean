/- Texts joined: QuS QuU. -/
import Derived.Test.YtgiicendejgklaaZ23
import Derived.Deep.RegionHeld3
import Derived.Test.YtgiicendejgklaaQuGm
/- A pile's Push; container/heap's Push over a pile. mkQuJ.py writes it. -/
namespace Go.Proofs.Ytgiicendejgklaa
open Go.RowKit Go.Maps
theorem infoPE : (Try.prog.info? 102).map (fun i => (i.zero, i.size, i.bytes)) = some (some (.pointer none), 1, 8) := by kernel_rfl
def ptrs (F : Nat → El) (n : Nat) : List Value := (List.range n).map fun i => ptrE (F i)
theorem ptrs_len (F : Nat → El) (n : Nat) : (ptrs F n).length = n := by simp [ptrs]
theorem ptrs_get {F : Nat → El} {n i : Nat} (h : i < n) : (ptrs F n)[i]? = some (ptrE (F i)) := by simp [ptrs, h]
theorem Pl.own {w : World} {bp g n cap : Nat} {F : Nat → El} (h : Pl w bp g n cap F) (hc : cap ≤ maxLen) : w.ownsRow 0 102 1 (.slice (some ⟨g, 0, none⟩) n cap) n (ptrs F n) := by
  obtain ⟨cur, h1, h2, h3⟩ := h.row
  refine ⟨by rw [ptrs_len]; omega, Or.inr ⟨g, cap, cur, rfl, Nat.zero_le _, h1, h.le, hc, by rw [h2]; omega, ?_⟩⟩
  apply List.ext_getElem?
  intro i
  rw [Nat.mul_one]
  rcases Nat.lt_or_ge i n with c | c
  · rw [List.getElem?_take_of_lt c, Array.getElem?_toList, h3 i c, ptrs_get c]
  · rw [List.getElem?_eq_none (l := cur.toList.take n) (by rw [List.length_take]; omega), List.getElem?_eq_none (by rw [ptrs_len]; exact c)]
theorem Pl.more {w w1 w5 : World} {bp g n cap : Nat} {F : Nat → El} {x : El} {v5 : Value} (h : Pl w bp g n cap F) (hn : n + 1 ≤ 1048576) (hx : w.cell? ⟨x.b, x.o, none⟩ = some (.int .i64 x.sq)) (hxb : x.b ≠ bp ∧ x.b ≠ g) (hb : Below w.heap.size w w1)
    (hown : w5.ownsRow 0 102 1 v5 (n + 1) (ptrs F n ++ [ptrE x])) (hg : w1.grownBy w5 (some g)) (hv : v5.ownBlock = some g ∨ v5.ownBlock = some w1.heap.size) :
    ∃ g' c', v5 = .slice (some ⟨g', 0, none⟩) (n + 1) c' ∧ (c' ≤ maxLen ∧ (g' = g ∨ w.heap.size ≤ g')) ∧ Pl (w5.setCell ⟨bp, 0, none⟩ v5) bp g' (n + 1) c' (fun t => if t = n then x else F t) ∧ Fr [bp, g] w (w5.setCell ⟨bp, 0, none⟩ v5) ∧ w5.heap[bp]? = w.heap[bp]? := by
  have hf := Fr.ofGrown hg
  have hbp : bp < w.heap.size := lt_of_blk h.blk
  have kp : ∀ k, k < w.heap.size → k ≠ g → w5.heap[k]? = w.heap[k]? := fun k hk hkg => by
    rw [hf.block k (Nat.lt_of_lt_of_le hk hb.size) (by simpa using hkg), hb.block k hk]
  rcases hown.2 with ⟨_, q⟩ | ⟨g', c', cur, e, _, h1, h2, h3, h4, h5⟩
  · omega
  subst e
  have hgb : g' ≠ bp := by
    rcases hv with q | q
    · simp [Value.ownBlock] at q; rw [q]; exact Ne.symm h.ne
    · simp [Value.ownBlock] at q; have := hb.size; omega
  have hgo : ∀ k, k < w.heap.size → k ≠ g → k ≠ g' := fun k hk hkg => by
    rcases hv with q | q
    · simp [Value.ownBlock] at q; rw [q]; exact hkg
    · simp [Value.ownBlock] at q; have := hb.size; omega
  have oth : ∀ k, k ≠ bp → (w5.setCell ⟨bp, 0, none⟩ (.slice (some ⟨g', 0, none⟩) (n + 1) c')).heap[k]? = w5.heap[k]? := fun k hk => other_c hk
  have hb5 : w5.heap[bp]? = w.heap[bp]? := kp bp hbp h.ne
  have hblk : w5.heap[bp]? = some (.cells #[.slice (some ⟨g, 0, none⟩) n cap] 106 (0, 0)) := by rw [hb5]; exact h.blk
  have p1 := poke_b (i := 0) hblk (.slice (some ⟨g', 0, none⟩) (n + 1) c')
  have hmem : ∀ i, i < n + 1 → ∃ y : El, (if i = n then x else F i) = y ∧ w.cell? ⟨y.b, y.o, none⟩ = some (.int .i64 y.sq) ∧ y.b ≠ bp ∧ y.b ≠ g := fun i hi => by
    by_cases c : i = n
    · exact ⟨x, by rw [if_pos c], hx, hxb⟩
    · exact ⟨F i, by rw [if_neg c], h.sq i (by omega), h.ap i (by omega)⟩
  have hgg : g' = g ∨ w.heap.size ≤ g' := by
    rcases hv with q | q
    · simp [Value.ownBlock] at q; exact Or.inl q
    · simp [Value.ownBlock] at q; right; have := hb.size; omega
  refine ⟨g', c', rfl, ⟨h3, hgg⟩, ⟨by simpa using p1, ⟨cur, by rw [oth g' hgb]; exact h1, by omega, fun i hi => ?_⟩, h2, hn, Ne.symm hgb, fun i hi => ?_, fun i hi => ?_⟩, ?_, hb5⟩
  · have e : (cur.toList.take ((n + 1) * 1))[i]? = (ptrs F n ++ [ptrE x])[i]? := by rw [h5]
    rw [Nat.mul_one, List.getElem?_take_of_lt hi, Array.getElem?_toList] at e
    rw [e]
    by_cases c : i = n
    · subst c; rw [if_pos rfl, List.getElem?_append_right (by rw [ptrs_len]; omega), ptrs_len, Nat.sub_self]; rfl
    · rw [if_neg c, List.getElem?_append_left (by rw [ptrs_len]; omega), ptrs_get (by omega)]
  · obtain ⟨y, hy, y1, y2, y3⟩ := hmem i hi
    rw [hy]
    have hyl := lt_of_cell y1
    rw [World.cell?_of_block (w := w) (by rw [oth _ y2]; exact kp _ hyl y3)]
    exact y1
  · obtain ⟨y, hy, y1, y2, y3⟩ := hmem i hi
    rw [hy]
    exact ⟨y2, hgo _ (lt_of_cell y1) y3⟩
  · have f1 : Fr [bp, g] w w5 := (Fr.refl [] w).below hb |>.trans hf (fun _ _ q => by cases q) (fun _ _ q => by simp at q; simp [q])
    exact f1.setCell (Or.inr (by simp)) _
set_option maxRecDepth 100000 in
set_option maxHeartbeats 8000000 in
theorem plPush_any {w : World} {bp g n cap : Nat} {F : Nat → El} (h : Pl w bp g n cap F) (hc : cap ≤ maxLen) (hn : n + 1 ≤ 1048576) {x : El} (hx : w.cell? ⟨x.b, x.o, none⟩ = some (.int .i64 x.sq)) (hxb : x.b ≠ bp ∧ x.b ≠ g) :
    Calls Try.prog 104 #[.pointer (some ⟨bp, 0, none⟩), .iface 102 (ptrE x)] w fun e w' => e = .returned (.tuple #[]) ∧ ∃ g' c', Pl w' bp g' (n + 1) c' (fun t => if t = n then x else F t) ∧ Fr [bp, g] w w' ∧ (g' = g ∨ w.heap.size ≤ g') := by
  obtain ⟨j0, hj, hy0, hy1, hyb⟩ := info_parts infoPE
  have hd := h.bw ((Below.refl w.heap.size w).drew)
  have x1 : w.drew.cell? ⟨bp, 0, none⟩ = some (.slice (some ⟨g, 0, none⟩) n cap) := hd.top
  have x2 : ∀ o, (w.alloc o).drew.cell? ⟨bp, 0, none⟩ = some (.slice (some ⟨g, 0, none⟩) n cap) := fun o => (h.bw ((bwA w o).drew)).top
  have HO := hide (h.own hc)
  have HM : Hid (∀ (w5 : World) (v5 : Value) (o : Obj), w5.ownsRow 0 102 1 v5 (n + 1) (ptrs F n ++ [ptrE x]) → (w.drew.alloc o).grownBy w5 (some g) → (v5.ownBlock = some g ∨ v5.ownBlock = some (w.drew.alloc o).heap.size) → ∃ g' c', v5 = .slice (some ⟨g', 0, none⟩) (n + 1) c' ∧ (w5.cell? ⟨bp, 0, none⟩ = some (.slice (some ⟨g, 0, none⟩) n cap) ∧ ∀ j, w5.frozen? ⟨bp, j, none⟩ = false) ∧ Hid (Pl (w5.setCell ⟨bp, 0, none⟩ v5) bp g' (n + 1) c' (fun t => if t = n then x else F t) ∧ Fr [bp, g] w (w5.setCell ⟨bp, 0, none⟩ v5) ∧ (g' = g ∨ w.heap.size ≤ g'))) := fun w5 v5 o h1 h2 h3 => by
    have hbo : Below w.heap.size w (w.drew.alloc o) := bw_tr (Below.refl w.heap.size w).drew (bwA w.drew o)
    obtain ⟨g', c', e, hgg, p, f, hb5⟩ := h.more hn hx hxb hbo h1 h2 h3
    have hblk : w5.heap[bp]? = some (.cells #[.slice (some ⟨g, 0, none⟩) n cap] 106 (0, 0)) := by rw [hb5]; exact h.blk
    exact ⟨g', c', e, ⟨blk_c hblk rfl, fun j => froz_b' (i := j) hblk⟩, p, f, hgg.2⟩
  obtain ⟨P, hP⟩ : ∃ P, P = ptrE x := ⟨_, rfl⟩
  rw [← hP] at HM ⊢
  obtain ⟨pb, po, rfl⟩ : ∃ b o, P = .pointer (some ⟨b, o, none⟩) := ⟨_, _, hP⟩
  have hnI : (n : Int) + 1 ≤ 1048576 := by omega
  have HNN := hide hn
  have hta : ∀ w, (Instr.typeAssert (.iface 102 (.pointer (some ⟨pb, po, none⟩))) 20 102 false).run Try.prog w = .ok (.pointer (some ⟨pb, po, none⟩)) w := fun w => by kernel_rfl
  clear h hd hx hxb hP hc hn
  go_enter Try.func104, Try.ntmps104
  refine wp_region_any (by kernel_rfl) ?_
  change wpAny _ _ _ _ _ _ _ (World.drew _)
  refine wpAny_take (i := 0) (oi := { dst := some 4, op := Op.move (Operand.tmp 0), type := 99, pos := "early.go:17", after := #[], guard := none }) (v := .pointer (some ⟨bp, 0, none⟩)) rfl (by kernel_rfl) (by kernel_rfl) (by kernel_rfl) (fun _ _ _ h => h) (Or.inl ⟨by rfl, fun w => by go_simp⟩) ?_
  try simp only [Act.put, List.setIfInBounds_toArray, List.set_cons_zero, List.set_cons_succ]
  refine wpAny_take (i := 1) (oi := { dst := some 5, op := Op.move (Operand.tmp 0), type := 99, pos := "early.go:17", after := #[], guard := none }) (v := .pointer (some ⟨bp, 0, none⟩)) rfl (by kernel_rfl) (by kernel_rfl) (by kernel_rfl) (fun _ _ _ h => h) (Or.inl ⟨by rfl, fun w => by go_simp⟩) ?_
  try simp only [Act.put, List.setIfInBounds_toArray, List.set_cons_zero, List.set_cons_succ]
  refine wpAny_take (i := 4) (oi := { dst := some 8, op := Op.move (Operand.tmp 1), type := 20, pos := "early.go:17", after := #[], guard := none }) (v := .iface 102 (.pointer (some ⟨pb, po, none⟩))) rfl (by kernel_rfl) (by kernel_rfl) (by kernel_rfl) (fun _ _ _ h => h) (Or.inl ⟨by rfl, fun w => by go_simp⟩) ?_
  try simp only [Act.put, List.setIfInBounds_toArray, List.set_cons_zero, List.set_cons_succ]
  refine wpAny_take (i := 2) (oi := { dst := some 6, op := Op.nilCheck (Operand.tmp 5), type := 0, pos := "early.go:17", after := #[{ on := 1, ground := Ground.data }], guard := none }) (v := .pointer (some ⟨bp, 0, none⟩)) rfl (by kernel_rfl) (by kernel_rfl) (by kernel_rfl) (fun _ _ _ h => h) (Or.inl ⟨by rfl, fun w => by go_simp⟩) ?_
  try simp only [Act.put, List.setIfInBounds_toArray, List.set_cons_zero, List.set_cons_succ]
  refine wpAny_take (i := 5) (oi := { dst := some 9, op := Op.typeAssert (Operand.tmp 8) 20 102 false, type := 102, pos := "early.go:17", after := #[{ on := 4, ground := Ground.data }], guard := none }) (v := .pointer (some ⟨pb, po, none⟩)) rfl (by kernel_rfl) (by kernel_rfl) (by kernel_rfl) (fun _ _ _ h => h) (Or.inl ⟨by rfl, fun w => by go_simp⟩) ?_
  try simp only [Act.put, List.setIfInBounds_toArray, List.set_cons_zero, List.set_cons_succ]
  refine wpAny_ready (rs := [3, 6]) (by kernel_rfl) (by simp) (AllReady.cons (o := { dst := some 7, op := Op.load 106 (Operand.tmp 6), type := 106, pos := "early.go:17", after := #[{ on := 2, ground := Ground.data }], guard := none }) rfl (fun K hK => ?_) (AllReady.cons (o := { dst := some 10, op := Op.buildSlice 106 1 #[(0, Operand.tmp 9)], type := 106, pos := "early.go:17", after := #[{ on := 5, ground := Ground.data }], guard := none }) rfl (fun K hK => ?_) AllReady.nil))
  · go_simp
    refine hK _ _ ?_
    clear hK K
    try simp only [Act.put, List.setIfInBounds_toArray, List.set_cons_zero, List.set_cons_succ]
    refine wpAny_ready (rs := [6]) (by kernel_rfl) (by simp) (AllReady.cons (o := { dst := some 10, op := Op.buildSlice 106 1 #[(0, Operand.tmp 9)], type := 106, pos := "early.go:17", after := #[{ on := 5, ground := Ground.data }], guard := none }) rfl (fun K hK => ?_) AllReady.nil)
    go_simp
    refine hK _ _ ?_
    clear hK K
    try simp only [Act.put, List.setIfInBounds_toArray, List.set_cons_zero, List.set_cons_succ]
    refine wpAny_ready (rs := [7]) (by kernel_rfl) (by simp) (AllReady.cons (o := { dst := some 11, op := Op.call { callee := Callee.builtin Builtin.append, args := #[Operand.tmp 7, Operand.tmp 10], argTypes := #[106, 106] }, type := 106, pos := "early.go:17", after := #[{ on := 3, ground := Ground.data }, { on := 6, ground := Ground.data }], guard := none }) rfl (fun K hK => ?_) AllReady.nil)
    refine step_appM rfl (.tmp 7) (.tmp 10) 106 rfl 0 102 j0 (.pointer none) 1 8 Try.underlying106 hj hy0 hy1 hyb rfl (by decide) (.slice (some ⟨g, 0, none⟩) n cap) n (ptrs F n) (by first | rfl | simp [Act.eval, Act.put]) (World.ownsRow.alloc (o := .cells #[.pointer (some ⟨pb, po, none⟩)] 102) (show World.ownsRow w.drew 0 102 1 _ n (ptrs F n) from (unhide HO))) ⟨w.heap.size, 0, none⟩ 1 1 [.pointer (some ⟨pb, po, none⟩)] (by first | rfl | simp [Act.eval, Act.put]) rfl (cells_newM w.drew [.pointer (some ⟨pb, po, none⟩)] 102) (by intro u hu; simp at hu; subst hu; rfl) (by have := unhide HNN; unfold maxLen; omega) (by have := unhide HNN; omega) (Nat.zero_le _) ?_
    intro v5 w5 hr5 hg5 hv5
    obtain ⟨g', c', rfl, ⟨z1, fz⟩, HX⟩ := unhide HM w5 v5 _ hr5 hg5 hv5
    clear hr5 hg5 hv5
    refine hK _ _ ?_
    clear hK K
    try simp only [Act.put, List.setIfInBounds_toArray, List.set_cons_zero, List.set_cons_succ]
    refine wpAny_take (i := 8) (oi := { dst := some 12, op := Op.nilCheck (Operand.tmp 4), type := 0, pos := "early.go:17", after := #[{ on := 0, ground := Ground.data }, { on := 0, ground := Ground.phase }, { on := 1, ground := Ground.phase }, { on := 2, ground := Ground.phase }, { on := 3, ground := Ground.phase }, { on := 4, ground := Ground.phase }, { on := 5, ground := Ground.phase }, { on := 6, ground := Ground.phase }, { on := 7, ground := Ground.phase }], guard := none }) (v := .pointer (some ⟨bp, 0, none⟩)) rfl (by kernel_rfl) (by kernel_rfl) (by kernel_rfl) (fun _ _ _ h => h) (Or.inl ⟨by rfl, fun w => by go_simp⟩) ?_
    try simp only [Act.put, List.setIfInBounds_toArray, List.set_cons_zero, List.set_cons_succ]
    refine wpAny_ready (rs := [9]) (by kernel_rfl) (by simp) (AllReady.cons (o := { dst := none, op := Op.store 106 (Operand.tmp 12) (Operand.tmp 11), type := 0, pos := "early.go:17", after := #[{ on := 8, ground := Ground.data }, { on := 7, ground := Ground.data }, { on := 7, ground := Ground.chain }, { on := 0, ground := Ground.phase }, { on := 1, ground := Ground.phase }, { on := 2, ground := Ground.phase }, { on := 3, ground := Ground.phase }, { on := 4, ground := Ground.phase }, { on := 5, ground := Ground.phase }, { on := 6, ground := Ground.phase }, { on := 7, ground := Ground.phase }], guard := none }) rfl (fun K hK => ?_) AllReady.nil)
    go_simp
    refine hK _ _ ?_
    clear hK K
    try simp only [Act.put]
    refine wpAny_done (by kernel_rfl) ?_ _
    go_wp2_with fail
    go_end0
    exact ⟨rfl, g', c', (unhide HX).1, (unhide HX).2.1, (unhide HX).2.2⟩
  · go_simp
    refine hK _ _ ?_
    clear hK K
    try simp only [Act.put, List.setIfInBounds_toArray, List.set_cons_zero, List.set_cons_succ]
    refine wpAny_ready (rs := [3]) (by kernel_rfl) (by simp) (AllReady.cons (o := { dst := some 7, op := Op.load 106 (Operand.tmp 6), type := 106, pos := "early.go:17", after := #[{ on := 2, ground := Ground.data }], guard := none }) rfl (fun K hK => ?_) AllReady.nil)
    go_simp
    refine hK _ _ ?_
    clear hK K
    try simp only [Act.put, List.setIfInBounds_toArray, List.set_cons_zero, List.set_cons_succ]
    refine wpAny_ready (rs := [7]) (by kernel_rfl) (by simp) (AllReady.cons (o := { dst := some 11, op := Op.call { callee := Callee.builtin Builtin.append, args := #[Operand.tmp 7, Operand.tmp 10], argTypes := #[106, 106] }, type := 106, pos := "early.go:17", after := #[{ on := 3, ground := Ground.data }, { on := 6, ground := Ground.data }], guard := none }) rfl (fun K hK => ?_) AllReady.nil)
    refine step_appM rfl (.tmp 7) (.tmp 10) 106 rfl 0 102 j0 (.pointer none) 1 8 Try.underlying106 hj hy0 hy1 hyb rfl (by decide) (.slice (some ⟨g, 0, none⟩) n cap) n (ptrs F n) (by first | rfl | simp [Act.eval, Act.put]) (World.ownsRow.alloc (o := .cells #[.pointer (some ⟨pb, po, none⟩)] 102) (show World.ownsRow w.drew 0 102 1 _ n (ptrs F n) from (unhide HO))) ⟨w.heap.size, 0, none⟩ 1 1 [.pointer (some ⟨pb, po, none⟩)] (by first | rfl | simp [Act.eval, Act.put]) rfl (cells_newM w.drew [.pointer (some ⟨pb, po, none⟩)] 102) (by intro u hu; simp at hu; subst hu; rfl) (by have := unhide HNN; unfold maxLen; omega) (by have := unhide HNN; omega) (Nat.zero_le _) ?_
    intro v5 w5 hr5 hg5 hv5
    obtain ⟨g', c', rfl, ⟨z1, fz⟩, HX⟩ := unhide HM w5 v5 _ hr5 hg5 hv5
    clear hr5 hg5 hv5
    refine hK _ _ ?_
    clear hK K
    try simp only [Act.put, List.setIfInBounds_toArray, List.set_cons_zero, List.set_cons_succ]
    refine wpAny_take (i := 8) (oi := { dst := some 12, op := Op.nilCheck (Operand.tmp 4), type := 0, pos := "early.go:17", after := #[{ on := 0, ground := Ground.data }, { on := 0, ground := Ground.phase }, { on := 1, ground := Ground.phase }, { on := 2, ground := Ground.phase }, { on := 3, ground := Ground.phase }, { on := 4, ground := Ground.phase }, { on := 5, ground := Ground.phase }, { on := 6, ground := Ground.phase }, { on := 7, ground := Ground.phase }], guard := none }) (v := .pointer (some ⟨bp, 0, none⟩)) rfl (by kernel_rfl) (by kernel_rfl) (by kernel_rfl) (fun _ _ _ h => h) (Or.inl ⟨by rfl, fun w => by go_simp⟩) ?_
    try simp only [Act.put, List.setIfInBounds_toArray, List.set_cons_zero, List.set_cons_succ]
    refine wpAny_ready (rs := [9]) (by kernel_rfl) (by simp) (AllReady.cons (o := { dst := none, op := Op.store 106 (Operand.tmp 12) (Operand.tmp 11), type := 0, pos := "early.go:17", after := #[{ on := 8, ground := Ground.data }, { on := 7, ground := Ground.data }, { on := 7, ground := Ground.chain }, { on := 0, ground := Ground.phase }, { on := 1, ground := Ground.phase }, { on := 2, ground := Ground.phase }, { on := 3, ground := Ground.phase }, { on := 4, ground := Ground.phase }, { on := 5, ground := Ground.phase }, { on := 6, ground := Ground.phase }, { on := 7, ground := Ground.phase }], guard := none }) rfl (fun K hK => ?_) AllReady.nil)
    go_simp
    refine hK _ _ ?_
    clear hK K
    try simp only [Act.put]
    refine wpAny_done (by kernel_rfl) ?_ _
    go_wp2_with fail
    go_end0
    exact ⟨rfl, g', c', (unhide HX).1, (unhide HX).2.1, (unhide HX).2.2⟩
set_option maxRecDepth 100000 in
set_option maxHeartbeats 4000000 in
theorem hpPush_any {w : World} {bp g n cap : Nat} {F : Nat → El} (h : Pl w bp g n cap F) (hp : HP El.sq F n) (hc : cap ≤ maxLen) (hn : n + 1 ≤ 1048576) {x : El} (hx : w.cell? ⟨x.b, x.o, none⟩ = some (.int .i64 x.sq)) (hxb : x.b ≠ bp ∧ x.b ≠ g) :
    Calls Try.prog 44 #[.iface 99 (.pointer (some ⟨bp, 0, none⟩)), .iface 102 (ptrE x)] w fun e w' => e = .returned (.tuple #[]) ∧ ∃ F' g' c', Pl w' bp g' (n + 1) c' F' ∧ HP El.sq F' (n + 1) ∧ Pm (fun t => if t = n then x else F t) F' (n + 1) ∧ Fr [bp, g] w w' ∧ (g' = g ∨ w.heap.size ≤ g') := by
  have KP := hide (plPush_any h hc hn hx hxb)
  have m1 := methN_push bp w
  have HH := hide (hp.push x)
  obtain ⟨P, hP⟩ : ∃ P, P = ptrE x := ⟨_, rfl⟩
  rw [← hP] at KP ⊢
  obtain ⟨pb, po, rfl⟩ : ∃ b o, P = .pointer (some ⟨b, o, none⟩) := ⟨_, _, hP⟩
  have hnI : (n : Int) + 1 ≤ 1048576 := by omega
  obtain ⟨M, hM⟩ : ∃ M, M = n + 1 := ⟨_, rfl⟩
  have HM := hide hM
  have q1 : (M : Int) - 1 = (n : Int) := by omega
  have q2 : (M : Int) ≤ 1048576 := by omega
  clear h hp hc hx hxb hP hn hM
  go_enter Try.func44, Try.ntmps44
  go_wp2_with fail
  refine (unhide KP).mono ?_
  rintro e w1 ⟨rfl, g', c', hPl, hF, hG⟩
  have KN : Hid (Calls Try.prog 101 #[.slice (some ⟨g', 0, none⟩) M c'] w1 fun e w' => e = .returned (.int .i64 (M : Int)) ∧ w' = w1) := plLen_any g' M c'
  have m2 : (method 275 99 (.pointer (some ⟨bp, 0, none⟩)) "Len").run Try.prog w1 = .ok (101, .slice (some ⟨g', 0, none⟩) M c') w1 := by
    have := methN_len hPl.top
    rw [← unhide HM] at this
    exact this
  have KU := hide (up_any hPl (j := n) (by omega) (unhide HH))
  have HF := hide (And.intro hF hG)
  clear KP m1 hPl hF hG HH
  go_wp2_with fail
  refine (unhide KN).mono ?_
  rintro e w2 ⟨rfl, rfl⟩
  clear KN m2
  go_wp2_with fail
  refine (unhide KU).mono ?_
  rintro e w3 ⟨rfl, F', u1, u2, u3, u4⟩
  have HR : Hid (∃ F' g' c', Pl w3 bp g' (n + 1) c' F' ∧ HP El.sq F' (n + 1) ∧ Pm (fun t => if t = n then x else F t) F' (n + 1) ∧ Fr [bp, g] w w3 ∧ (g' = g ∨ w.heap.size ≤ g')) := by
    refine ⟨F', g', c', u1, u2, u3, (unhide HF).1.trans u4 (fun _ _ q => q) (fun z hz q => ?_), (unhide HF).2⟩
    simp at q
    subst q
    rcases (unhide HF).2 with r | r
    · simp [r]
    · omega
  clear KU u1 u2 u3 u4 HF
  go_wp2_with fail
  go_end0
  exact ⟨rfl, unhide HR⟩
end Go.Proofs.Ytgiicendejgklaa

/- A pile of a list that rises (piled). mkQuU.py writes it. -/
namespace Go.Proofs.Ytgiicendejgklaa
open Go.RowKit Go.Maps
def pF (eg eo : Nat) (l : List Er) (i : Nat) : El := ⟨eg, eo + i * 54, (l[i]?.map (·.sq)).getD 0⟩
theorem madeP_size (n : Nat) : (madeCells (Value.pointer none).cells n).size = n := by simp [madeCells]
set_option maxRecDepth 100000 in
set_option maxHeartbeats 8000000 in
theorem piled_any {w : World} {v : Value} {l : List Er} {xs : List Fx} (h : RdL kEr w v l xs) (hl : l.length ≤ 1024) :
    Calls Try.prog 43 #[v] w fun e w' => ∃ g bp eg eo, e = .returned (.pointer (some ⟨bp, 0, none⟩)) ∧ Hid (Pl w' bp g l.length (l.length + 1) (pF eg eo l) ∧ (∀ (i : Nat) a, l[i]? = some a → ∃ x, xs[i]? = some x ∧ FdR w a.fd x ∧ w.rangeAt eg (eo + i * 54) (erC a x)) ∧ w.heap.size ≤ g ∧ w.heap.size ≤ bp ∧ Below w.heap.size w w' ∧ (0 < l.length → ∃ c, v = .slice (some ⟨eg, eo, none⟩) l.length c)) := by
  obtain ⟨ad, cap, rfl, hsrc⟩ := h.form
  obtain ⟨eg, eo, hE⟩ : ∃ eg eo, 0 < l.length → ad = some ⟨eg, eo, none⟩ := by
    rcases hsrc with c | ⟨g, o, c, _⟩
    · exact ⟨0, 0, fun q => absurd q (by rw [c]; decide)⟩
    · exact ⟨g, o, fun _ => c⟩
  have HR : Hid (∀ (i : Nat) a, l[i]? = some a → ∃ x, xs[i]? = some x ∧ FdR w a.fd x ∧ w.rangeAt eg (eo + i * 54) (erC a x)) := fun i a ha => by
    obtain ⟨g, o, y, e, hy, hR, hc⟩ := h.get ha
    have := hE (by have := (List.getElem?_eq_some_iff.1 ha).1; omega)
    rw [this] at e
    simp only [Option.some.injEq, Addr.mk.injEq] at e
    obtain ⟨rfl, rfl, _⟩ := e
    exact ⟨y, hy, hR.1, fun j u hj => hc j u hj⟩
  have HSQ : Hid (∀ i, i < l.length → w.cell? ⟨eg, eo + i * 54, none⟩ = some (.int .i64 (pF eg eo l i).sq)) := fun i hi => by
    obtain ⟨a, ha⟩ : ∃ a, l[i]? = some a := ⟨_, List.getElem?_eq_getElem hi⟩
    obtain ⟨x, _, _, hr⟩ := unhide HR i a ha
    have := hr 0 _ (show (erC a x)[0]? = some (.int .i64 a.sq) from rfl)
    rw [Nat.add_zero] at this
    rw [this]; unfold pF; rw [ha]; rfl
  clear h hsrc
  obtain ⟨i0, hi0, hz0, hz1, hz2⟩ := info_parts infoPE
  have hmk := run_makeSlice (P := Try.prog) w 106 102 i0 (.pointer none) Try.underlying106 hi0 hz0 .i64 .i64 (l.length : Int) ((l.length : Int) + 1) (by omega) (by omega) (by rw [hz1]; omega) (by rw [hz2]; omega) (by omega)
  rw [hz1] at hmk
  have e1 : ((l.length : Int) + 1).toNat * 1 = l.length + 1 := by omega
  have e2 : ((l.length : Int) + 1).toNat = l.length + 1 := by omega
  rw [e1, e2, Int.toNat_natCast] at hmk
  obtain ⟨N, hN⟩ : ∃ N, N = l.length := ⟨_, rfl⟩
  rw [← hN] at hmk hE HSQ ⊢
  have hNI : (N : Int) ≤ 1024 := by omega
  have hms := madeP_size (N + 1)
  generalize madeCells (Value.pointer none).cells (N + 1) = mc at hmk hms
  obtain ⟨g, hg⟩ : ∃ g, g = w.heap.size := ⟨_, rfl⟩
  have HN := hide hN
  have HE := hide hE
  have HV : Hid (0 < N → ∃ c, Value.slice ad N cap = .slice (some ⟨eg, eo, none⟩) N c) := fun q => ⟨cap, by rw [hE q]⟩
  clear e1 e2 hi0 hz0 hz1 hz2 hl hN hE
  go_enter Try.func43, Try.ntmps43
  go_upto_region 2 with fail
  rw [← hg]
  generalize hW : World.alloc (World.alloc w (.cells mc 102)) (.cells #[.slice (some ⟨g, 0, none⟩) N (N + 1)] 106) = W1
  have HB : Hid (W1.heap[g]? = some (.cells mc 102 (0, 0)) ∧ W1.heap[g + 1]? = some (.cells #[.slice (some ⟨g, 0, none⟩) N (N + 1)] 106 (0, 0)) ∧ Below w.heap.size w W1) := by
    rw [← hW]
    have k0 := heap_alloc_new w (.cells mc 102)
    have hs1 : (w.alloc (.cells mc 102)).heap.size = g + 1 := by rw [hg]; simp
    have k1 := heap_alloc_new (w.alloc (.cells mc 102)) (.cells #[.slice (some ⟨g, 0, none⟩) N (N + 1)] 106)
    rw [hs1] at k1
    have b1 := bwA w (.cells mc 102)
    have b2 := bwA (w.alloc (.cells mc 102)) (.cells #[.slice (some ⟨g, 0, none⟩) N (N + 1)] 106)
    rw [← hg] at k0
    exact ⟨kept_b k0 (by omega) b2, k1, bw_tr b1 b2⟩
  clear hW hmk
  generalize hbp : g + 1 = bp at HB ⊢
  have HBG := hide (And.intro hg hbp)
  have hne : bp ≠ g := by omega
  clear hg hbp
  go_wp2_with fail
  go_loopw [13] (fun iv wr => ∃ (i : Nat) (cur : Array Value), i ≤ N ∧ iv = .int .i64 (i : Int) ∧ Hid (wr.heap[g]? = some (.cells cur 102 (0, 0)) ∧ cur.size = N + 1 ∧ (∀ j, j < i → cur[j]? = some (ptrE (pF eg eo l j))) ∧ wr.heap[bp]? = some (.cells #[.slice (some ⟨g, 0, none⟩) N (N + 1)] 106 (0, 0)) ∧ Below w.heap.size w wr)) (fun iv _ => (N - intOf iv).toNat)
  case atStart => exact ⟨0, mc, Nat.zero_le _, rfl, (unhide HB).1, hms, fun j hj => absurd hj (by omega), (unhide HB).2.1, (unhide HB).2.2⟩
  case round =>
    clear HB hms
    obtain ⟨i, cur, hi, rfl, HS⟩ := hrel
    by_cases hlt : i < N
    · obtain rfl := unhide HE (by omega)
      obtain ⟨k1, k2, k3, k4, k5⟩ := unhide HS
      have q1 : (i : Int) < (N : Int) := by omega
      have q0 : (0 : Int) ≤ (i : Int) := by omega
      have f0 : wr.drew.cell? ⟨bp, 0, none⟩ = some (.slice (some ⟨g, 0, none⟩) N (N + 1)) := blk_c (W := wr.drew) k4 rfl
      obtain ⟨X, f1⟩ : ∃ X, wr.drew.cell? ⟨g, i, none⟩ = some X := ⟨_, blk_c (W := wr.drew) k1 (Array.getElem?_eq_getElem (by omega))⟩
      have fz : wr.drew.frozen? ⟨g, i, none⟩ = false := froz_b' (W := wr.drew) k1
      have HNX : Hid ((wr.drew.setCell ⟨g, i, none⟩ (.pointer (some ⟨eg, eo + i * 54, none⟩))).heap[g]? = some (.cells (cur.setIfInBounds i (.pointer (some ⟨eg, eo + i * 54, none⟩))) 102 (0, 0)) ∧ (cur.setIfInBounds i (.pointer (some ⟨eg, eo + i * 54, none⟩))).size = N + 1 ∧ (∀ j, j < i + 1 → (cur.setIfInBounds i (.pointer (some ⟨eg, eo + i * 54, none⟩)))[j]? = some (ptrE (pF eg eo l j))) ∧ (wr.drew.setCell ⟨g, i, none⟩ (.pointer (some ⟨eg, eo + i * 54, none⟩))).heap[bp]? = some (.cells #[.slice (some ⟨g, 0, none⟩) N (N + 1)] 106 (0, 0)) ∧ Below w.heap.size w (wr.drew.setCell ⟨g, i, none⟩ (.pointer (some ⟨eg, eo + i * 54, none⟩)))) := by
        refine ⟨poke_b (W := wr.drew) k1 _, by simp [k2], fun j hj => ?_, by rw [other_c hne]; exact k4, k5.drew.setCell (by have := (unhide HBG).1; simp; omega) _⟩
        rw [set_get (by omega)]
        by_cases c : j = i
        · subst c; rw [if_pos rfl]; rfl
        · rw [if_neg c]; exact k3 j (by omega)
      clear k1 k2 k3 k4 k5 HS HR HSQ HE HBG HN HV hi hlt
      go_upto_region 5 with fail
      refine wp_region_any (by kernel_rfl) ?_
      change wpAny _ _ _ _ _ _ _ (World.drew _)
      refine wpAny_take (i := 1) (oi := { dst := some 17, op := Op.move (Operand.tmp 4), type := 3, pos := "early.go:31", after := #[], guard := none }) (v := .int .i64 (i : Int)) rfl (by kernel_rfl) (by kernel_rfl) (by kernel_rfl) (fun _ _ _ h => h) (Or.inl ⟨by rfl, fun w => by go_simp⟩) ?_
      try simp only [Act.put, List.setIfInBounds_toArray, List.set_cons_zero, List.set_cons_succ]
      refine wpAny_take (i := 2) (oi := { dst := some 18, op := Op.move (Operand.tmp 0), type := 71, pos := "early.go:31", after := #[], guard := none }) (v := .slice (some ⟨eg, eo, none⟩) N cap) rfl (by kernel_rfl) (by kernel_rfl) (by kernel_rfl) (fun _ _ _ h => h) (Or.inl ⟨by rfl, fun w => by go_simp⟩) ?_
      try simp only [Act.put, List.setIfInBounds_toArray, List.set_cons_zero, List.set_cons_succ]
      refine wpAny_take (i := 3) (oi := { dst := some 19, op := Op.move (Operand.tmp 4), type := 3, pos := "early.go:31", after := #[], guard := none }) (v := .int .i64 (i : Int)) rfl (by kernel_rfl) (by kernel_rfl) (by kernel_rfl) (fun _ _ _ h => h) (Or.inl ⟨by rfl, fun w => by go_simp⟩) ?_
      try simp only [Act.put, List.setIfInBounds_toArray, List.set_cons_zero, List.set_cons_succ]
      refine wpAny_take (i := 4) (oi := { dst := some 20, op := Op.indexAddr 71 (Operand.tmp 18) (Operand.tmp 19), type := 0, pos := "early.go:31", after := #[{ on := 2, ground := Ground.data }, { on := 3, ground := Ground.data }], guard := none }) (v := .pointer (some ⟨eg, eo + i * 54, none⟩)) rfl (by kernel_rfl) (by kernel_rfl) (by kernel_rfl) (fun _ _ _ h => h) (Or.inl ⟨by rfl, fun w => by go_simp⟩) ?_
      try simp only [Act.put, List.setIfInBounds_toArray, List.set_cons_zero, List.set_cons_succ]
      refine wpAny_ready (rs := [0]) (by kernel_rfl) (by simp) (AllReady.cons (o := { dst := some 16, op := Op.load 106 (Operand.tmp 3), type := 106, pos := "early.go:31", after := #[], guard := none }) rfl (fun K hK => ?_) AllReady.nil)
      go_simp
      refine hK _ _ ?_
      clear hK K
      try simp only [Act.put, List.setIfInBounds_toArray, List.set_cons_zero, List.set_cons_succ]
      refine wpAny_take (i := 5) (oi := { dst := some 21, op := Op.indexAddr 106 (Operand.tmp 16) (Operand.tmp 17), type := 0, pos := "early.go:31", after := #[{ on := 0, ground := Ground.data }, { on := 1, ground := Ground.data }, { on := 0, ground := Ground.phase }, { on := 1, ground := Ground.phase }, { on := 2, ground := Ground.phase }, { on := 3, ground := Ground.phase }, { on := 4, ground := Ground.phase }], guard := none }) (v := .pointer (some ⟨g, i, none⟩)) rfl (by kernel_rfl) (by kernel_rfl) (by kernel_rfl) (fun _ _ _ h => h) (Or.inl ⟨by rfl, fun w => by go_simp⟩) ?_
      try simp only [Act.put, List.setIfInBounds_toArray, List.set_cons_zero, List.set_cons_succ]
      refine wpAny_ready (rs := [6]) (by kernel_rfl) (by simp) (AllReady.cons (o := { dst := none, op := Op.store 102 (Operand.tmp 21) (Operand.tmp 20), type := 0, pos := "early.go:31", after := #[{ on := 5, ground := Ground.data }, { on := 4, ground := Ground.data }, { on := 0, ground := Ground.phase }, { on := 1, ground := Ground.phase }, { on := 2, ground := Ground.phase }, { on := 3, ground := Ground.phase }, { on := 4, ground := Ground.phase }], guard := none }) rfl (fun K hK => ?_) AllReady.nil)
      go_simp
      refine hK _ _ ?_
      clear hK K
      try simp only [Act.put]
      refine wpAny_done (by kernel_rfl) ?_ _
      go_wp2_with fail
      go_roundw
      case rel => exact ⟨i + 1, _, by omega, by go_num, HNX⟩
      case measure => simp only [intOf]; omega
    · obtain rfl : i = N := by omega
      obtain ⟨k1, k2, k3, k4, k5⟩ := unhide HS
      have HF : Hid (Pl wr bp g i (i + 1) (pF eg eo l) ∧ (∀ (i : Nat) a, l[i]? = some a → ∃ x, xs[i]? = some x ∧ FdR w a.fd x ∧ w.rangeAt eg (eo + i * 54) (erC a x)) ∧ w.heap.size ≤ g ∧ w.heap.size ≤ bp ∧ Below w.heap.size w wr ∧ (0 < i → ∃ c, Value.slice ad i cap = .slice (some ⟨eg, eo, none⟩) i c)) := by
        have hgg := unhide HBG
        refine ⟨⟨k4, ⟨cur, k1, k2, k3⟩, by omega, by omega, hne, fun t ht => ?_, fun t ht => ?_⟩, unhide HR, by omega, by omega, k5, unhide HV⟩
        · have := unhide HSQ t ht
          show wr.cell? ⟨eg, eo + t * 54, none⟩ = _
          rw [k5.cell (lt_of_cell this)]; exact this
        · have := lt_of_cell (unhide HSQ t ht)
          simp only at this
          show eg ≠ bp ∧ eg ≠ g
          omega
      clear k1 k2 k3 k4 k5 HS HR HSQ HE HN HV
      go_wp2_with fail
      go_ret
      exact ⟨g, bp, eg, eo, rfl, HF⟩
end Go.Proofs.Ytgiicendejgklaa
