/- A row of what is known grows by one; the contract of wait of package deduce. -/
import Derived.Test.YtkaioidneknmjaaNDdA
namespace Go.Proofs.Ytkaioidneknmjaa.Tn
open Go.RowKit Go.Maps

theorem Kn.growF {w w0 w1 : World} {kb : Nat} {fv tv lv v1 : Value} {b : Nat} {F : List Bool} {fs : List Nat} {ls : List (Nat × Nat)} {x : Bool} (h : Kn w kb fv tv lv b F fs ls) (h0 : Fr [] w w0) (hown : w1.ownsRow 0 4 1 v1 (F.length + 1) (F.map .bool ++ [.bool x])) (hg : w0.grownBy w1 fv.ownBlock) (hat : v1.ownBlock = fv.ownBlock ∨ v1.ownBlock = some w0.heap.size) :
    Kn (w1.setCell ⟨kb, 1, none⟩ v1) kb v1 tv lv b (F ++ [x]) fs ls ∧ Mv w (w1.setCell ⟨kb, 1, none⟩ v1) (kfoot kb fv tv lv) (kfoot kb v1 tv lv) ∧ w1.cell? ⟨kb, 1, none⟩ = some fv ∧ w1.frozen? ⟨kb, 1, none⟩ = false ∧ (∃ g cap, v1 = .slice (some ⟨g, 0, none⟩) (F.length + 1) cap) := by
  obtain ⟨a1, a2, a3, a4, a5⟩ := h.apart
  have hk := lt_of_blk h.blk
  have hs := h0.size
  have old : ∀ k, k < w.heap.size → fv.ownBlock ≠ some k → w1.heap[k]? = w.heap[k]? := fun k hk hn => by
    rw [hg.block k (by omega) (fun c => hn c.symm), h0.block k hk (by simp)]
  have hb1 : w1.heap[kb]? = some (.cells #[.pointer (some ⟨b, 0, none⟩), fv, tv, lv] 78 (0, 0)) := by
    rw [old kb hk a1]; exact h.blk
  have hv1 : v1.ownBlock ≠ some kb := by
    rcases hat with c | c
    · rw [c]; exact a1
    · rw [c]; intro e; simp at e; omega
  have kept : ∀ k, k ≠ kb → (w1.setCell ⟨kb, 1, none⟩ v1).heap[k]? = w1.heap[k]? := fun k hn => Below.heap_setCell _ _ _ _ hn
  refine ⟨⟨by simp [World.setCell, Array.getElem?_modify, hb1], ?_, ?_, ?_⟩, ⟨?_, ?_⟩, by simp [World.cell?, hb1], by simp [World.frozen?, hb1], ?_⟩
  · have hr : BRow w1 v1 (F ++ [x]) := by
      unfold BRow
      rw [List.length_append]
      simpa using hown
    exact own_keep hr fun k hk => kept k (fun c => hv1 (by rw [hk, c]))
  · exact own_keep h.rt fun k hk => by rw [kept k (fun c => a2 (by rw [hk, c])), old k (World.ownsRow.lt h.rt k hk).2 (fun c => (a4 k c).1 hk)]
  · exact own_keep h.rl fun k hk => by rw [kept k (fun c => a3 (by rw [hk, c])), old k (World.ownsRow.lt h.rl k hk).2 (fun c => (a4 k c).2 hk)]
  · have hF : Fr (kfoot kb fv tv lv) w w1 := h0.trans (Fr.ofGrown hg) (fun _ _ c => by cases c) (fun y _ c => mem_kfoot.2 (by have q : fv.ownBlock = some y := (by simpa using c); simp [q]))
    exact hF.setCell (Or.inr (mem_kfoot.2 (Or.inl rfl))) _
  · intro k hk'
    rcases mem_kfoot.1 hk' with c | c | c | c
    · exact Or.inl (mem_kfoot.2 (Or.inl c))
    · rcases hat with q | q
      · rw [q] at c; exact Or.inl (mem_kfoot.2 (Or.inr (Or.inl c)))
      · right; rw [q] at c; simp at c; omega
    · exact Or.inl (mem_kfoot.2 (Or.inr (Or.inr (Or.inl c))))
    · exact Or.inl (mem_kfoot.2 (Or.inr (Or.inr (Or.inr c))))
  · exact own_form hown

theorem Kn.growT {w w0 w1 : World} {kb : Nat} {fv tv lv v1 : Value} {b : Nat} {F : List Bool} {fs : List Nat} {ls : List (Nat × Nat)} {x : Nat} (h : Kn w kb fv tv lv b F fs ls) (h0 : Fr [] w w0) (hown : w1.ownsRow 0 3 1 v1 (fs.length + 1) (fs.map (fun m => .int .i64 ((m : Nat) : Int)) ++ [.int .i64 (x : Int)])) (hg : w0.grownBy w1 tv.ownBlock) (hat : v1.ownBlock = tv.ownBlock ∨ v1.ownBlock = some w0.heap.size) :
    Kn (w1.setCell ⟨kb, 2, none⟩ v1) kb fv v1 lv b F (fs ++ [x]) ls ∧ Mv w (w1.setCell ⟨kb, 2, none⟩ v1) (kfoot kb fv tv lv) (kfoot kb fv v1 lv) ∧ w1.cell? ⟨kb, 2, none⟩ = some tv ∧ w1.frozen? ⟨kb, 2, none⟩ = false ∧ (∃ g cap, v1 = .slice (some ⟨g, 0, none⟩) (fs.length + 1) cap) := by
  obtain ⟨a1, a2, a3, a4, a5⟩ := h.apart
  have hk := lt_of_blk h.blk
  have hs := h0.size
  have old : ∀ k, k < w.heap.size → tv.ownBlock ≠ some k → w1.heap[k]? = w.heap[k]? := fun k hk hn => by
    rw [hg.block k (by omega) (fun c => hn c.symm), h0.block k hk (by simp)]
  have hb1 : w1.heap[kb]? = some (.cells #[.pointer (some ⟨b, 0, none⟩), fv, tv, lv] 78 (0, 0)) := by
    rw [old kb hk a2]; exact h.blk
  have hv1 : v1.ownBlock ≠ some kb := by
    rcases hat with c | c
    · rw [c]; exact a2
    · rw [c]; intro e; simp at e; omega
  have kept : ∀ k, k ≠ kb → (w1.setCell ⟨kb, 2, none⟩ v1).heap[k]? = w1.heap[k]? := fun k hn => Below.heap_setCell _ _ _ _ hn
  refine ⟨⟨by simp [World.setCell, Array.getElem?_modify, hb1], ?_, ?_, ?_⟩, ⟨?_, ?_⟩, by simp [World.cell?, hb1], by simp [World.frozen?, hb1], ?_⟩
  · exact own_keep h.rf fun k hk => by rw [kept k (fun c => a1 (by rw [hk, c])), old k (World.ownsRow.lt h.rf k hk).2 (fun c => (a4 k hk).1 c)]
  · have hr : NRow 0 w1 v1 (fs ++ [x]) := by
      unfold NRow
      rw [List.length_append]
      simpa using hown
    exact own_keep hr fun k hk => kept k (fun c => hv1 (by rw [hk, c]))
  · exact own_keep h.rl fun k hk => by rw [kept k (fun c => a3 (by rw [hk, c])), old k (World.ownsRow.lt h.rl k hk).2 (fun c => a5 k c hk)]
  · have hF : Fr (kfoot kb fv tv lv) w w1 := h0.trans (Fr.ofGrown hg) (fun _ _ c => by cases c) (fun y _ c => mem_kfoot.2 (by have q : tv.ownBlock = some y := (by simpa using c); simp [q]))
    exact hF.setCell (Or.inr (mem_kfoot.2 (Or.inl rfl))) _
  · intro k hk'
    rcases mem_kfoot.1 hk' with c | c | c | c
    · exact Or.inl (mem_kfoot.2 (Or.inl c))
    · exact Or.inl (mem_kfoot.2 (Or.inr (Or.inl c)))
    · rcases hat with q | q
      · rw [q] at c; exact Or.inl (mem_kfoot.2 (Or.inr (Or.inr (Or.inl c))))
      · right; rw [q] at c; simp at c; omega
    · exact Or.inl (mem_kfoot.2 (Or.inr (Or.inr (Or.inr c))))
  · exact own_form hown

theorem Kn.growL {w w0 w1 : World} {kb : Nat} {fv tv lv v1 : Value} {b : Nat} {F : List Bool} {fs : List Nat} {ls : List (Nat × Nat)} {x : Nat × Nat} (h : Kn w kb fv tv lv b F fs ls) (h0 : Fr [] w w0) (hown : w1.ownsRow 0 75 2 v1 (ls.length + 1) (ls.flatMap lnC ++ lnC x)) (hg : w0.grownBy w1 lv.ownBlock) (hat : v1.ownBlock = lv.ownBlock ∨ v1.ownBlock = some w0.heap.size) :
    Kn (w1.setCell ⟨kb, 3, none⟩ v1) kb fv tv v1 b F fs (ls ++ [x]) ∧ Mv w (w1.setCell ⟨kb, 3, none⟩ v1) (kfoot kb fv tv lv) (kfoot kb fv tv v1) ∧ w1.cell? ⟨kb, 3, none⟩ = some lv ∧ w1.frozen? ⟨kb, 3, none⟩ = false ∧ (∃ g cap, v1 = .slice (some ⟨g, 0, none⟩) (ls.length + 1) cap) := by
  obtain ⟨a1, a2, a3, a4, a5⟩ := h.apart
  have hk := lt_of_blk h.blk
  have hs := h0.size
  have old : ∀ k, k < w.heap.size → lv.ownBlock ≠ some k → w1.heap[k]? = w.heap[k]? := fun k hk hn => by
    rw [hg.block k (by omega) (fun c => hn c.symm), h0.block k hk (by simp)]
  have hb1 : w1.heap[kb]? = some (.cells #[.pointer (some ⟨b, 0, none⟩), fv, tv, lv] 78 (0, 0)) := by
    rw [old kb hk a3]; exact h.blk
  have hv1 : v1.ownBlock ≠ some kb := by
    rcases hat with c | c
    · rw [c]; exact a3
    · rw [c]; intro e; simp at e; omega
  have kept : ∀ k, k ≠ kb → (w1.setCell ⟨kb, 3, none⟩ v1).heap[k]? = w1.heap[k]? := fun k hn => Below.heap_setCell _ _ _ _ hn
  refine ⟨⟨by simp [World.setCell, Array.getElem?_modify, hb1], ?_, ?_, ?_⟩, ⟨?_, ?_⟩, by simp [World.cell?, hb1], by simp [World.frozen?, hb1], ?_⟩
  · exact own_keep h.rf fun k hk => by rw [kept k (fun c => a1 (by rw [hk, c])), old k (World.ownsRow.lt h.rf k hk).2 (fun c => (a4 k hk).2 c)]
  · exact own_keep h.rt fun k hk => by rw [kept k (fun c => a2 (by rw [hk, c])), old k (World.ownsRow.lt h.rt k hk).2 (fun c => a5 k hk c)]
  · have hr : LRow w1 v1 (ls ++ [x]) := by
      unfold LRow
      rw [List.length_append]
      simpa using hown
    exact own_keep hr fun k hk => kept k (fun c => hv1 (by rw [hk, c]))
  · have hF : Fr (kfoot kb fv tv lv) w w1 := h0.trans (Fr.ofGrown hg) (fun _ _ c => by cases c) (fun y _ c => mem_kfoot.2 (by have q : lv.ownBlock = some y := (by simpa using c); simp [q]))
    exact hF.setCell (Or.inr (mem_kfoot.2 (Or.inl rfl))) _
  · intro k hk'
    rcases mem_kfoot.1 hk' with c | c | c | c
    · exact Or.inl (mem_kfoot.2 (Or.inl c))
    · exact Or.inl (mem_kfoot.2 (Or.inr (Or.inl c)))
    · exact Or.inl (mem_kfoot.2 (Or.inr (Or.inr (Or.inl c))))
    · rcases hat with q | q
      · rw [q] at c; exact Or.inl (mem_kfoot.2 (Or.inr (Or.inr (Or.inr c))))
      · right; rw [q] at c; simp at c; omega
  · exact own_form hown

theorem Kn.setF {w : World} {kb g n cap : Nat} {tv lv : Value} {b : Nat} {F : List Bool} {fs : List Nat} {ls : List (Nat × Nat)} (h : Kn w kb (.slice (some ⟨g, 0, none⟩) n cap) tv lv b F fs ls) (m : Nat) (x : Bool) :
    Kn (w.setCell ⟨g, m, none⟩ (.bool x)) kb (.slice (some ⟨g, 0, none⟩) n cap) tv lv b (F.set m x) fs ls ∧ Mv w (w.setCell ⟨g, m, none⟩ (.bool x)) (kfoot kb (.slice (some ⟨g, 0, none⟩) n cap) tv lv) (kfoot kb (.slice (some ⟨g, 0, none⟩) n cap) tv lv) := by
  obtain ⟨a1, _, _, a4, _⟩ := h.apart
  have kept : ∀ k, k ≠ g → (w.setCell ⟨g, m, none⟩ (.bool x)).heap[k]? = w.heap[k]? := fun k hn => Below.heap_setCell _ _ _ _ hn
  refine ⟨⟨?_, h.rf.set rfl x, own_keep h.rt fun k hk => kept k (fun c => (a4 g rfl).1 (by rw [hk, c])), own_keep h.rl fun k hk => kept k (fun c => (a4 g rfl).2 (by rw [hk, c]))⟩, ⟨(Fr.refl _ w).setCell (Or.inr (mem_kfoot.2 (Or.inr (Or.inl rfl)))) _, fun _ hx => Or.inl hx⟩⟩
  rw [kept kb (fun c => a1 (by rw [c]; rfl))]; exact h.blk
theorem Kn.setT {w : World} {kb g n cap : Nat} {fv lv : Value} {b : Nat} {F : List Bool} {fs : List Nat} {ls : List (Nat × Nat)} (h : Kn w kb fv (.slice (some ⟨g, 0, none⟩) n cap) lv b F fs ls) (m : Nat) (x : Nat) :
    Kn (w.setCell ⟨g, m, none⟩ (.int .i64 (x : Int))) kb fv (.slice (some ⟨g, 0, none⟩) n cap) lv b F (fs.set m x) ls ∧ Mv w (w.setCell ⟨g, m, none⟩ (.int .i64 (x : Int))) (kfoot kb fv (.slice (some ⟨g, 0, none⟩) n cap) lv) (kfoot kb fv (.slice (some ⟨g, 0, none⟩) n cap) lv) := by
  obtain ⟨_, a2, _, a4, a5⟩ := h.apart
  have kept : ∀ k, k ≠ g → (w.setCell ⟨g, m, none⟩ (.int .i64 (x : Int))).heap[k]? = w.heap[k]? := fun k hn => Below.heap_setCell _ _ _ _ hn
  refine ⟨⟨?_, own_keep h.rf fun k hk => kept k (fun c => (a4 k hk).1 (by rw [c]; rfl)), nrow_set h.rt rfl x, own_keep h.rl fun k hk => kept k (fun c => a5 g rfl (by rw [hk, c]))⟩, ⟨(Fr.refl _ w).setCell (Or.inr (mem_kfoot.2 (Or.inr (Or.inr (Or.inl rfl))))) _, fun _ hx => Or.inl hx⟩⟩
  rw [kept kb (fun c => a2 (by rw [c]; rfl))]; exact h.blk

/-- A link more. -/
theorem cells_new2 (w : World) (x0 x1 : Value) (t : TypeId) : ∀ j u, [x0, x1][j]? = some u → (w.alloc (.cells #[x0, x1] t)).cell? ((⟨w.heap.size, 0, none⟩ : Addr).add j) = some u := by
  intro j u hj
  have e : ∀ j, (⟨w.heap.size, 0, none⟩ : Addr).add j = ⟨w.heap.size, j, none⟩ := fun j => by cases j <;> simp [Addr.add]
  rw [e]
  unfold World.cell?; simp only [heap_alloc_new]
  match j, hj with
  | 0, hj | 1, hj => simpa using hj
  | j + 2, hj => simp at hj
theorem Try.infoLink : (Try.prog.info? 75).map (fun i => (i.zero, i.size, i.bytes)) = some (some (.agg #[.int .i64 0, .int .i64 0]), 2, 16) := by kernel_rfl
theorem Try.infoBool : (Try.prog.info? 4).map (fun i => (i.zero, i.size, i.bytes)) = some (some (.bool false), 1, 1) := by kernel_rfl

set_option maxRecDepth 100000 in
set_option maxHeartbeats 4000000 in
theorem wait_any (kb : Nat) (fv tv lv : Value) (b : Nat) (F : List Bool) (fs : List Nat) (ls : List (Nat × Nat)) (n d : Nat) (w : World) (h : Kn w kb fv tv lv b F fs ls) (hd : d < F.length) (hf : fs.length = F.length) (hF : F.length ≤ 1048577) (hl : ls.length < 3 * F.length) (h0 : 1 ≤ ls.length) :
    Calls Try.prog 54 #[.pointer (some ⟨kb, 0, none⟩), .int .i64 (n : Int), .int .i64 (d : Int)] w fun e w' => e = .returned (.tuple #[]) ∧ ∃ lv', Kn w' kb fv tv lv' b F (wtF F fs ls d) (wtL F fs ls n d) ∧ Mv w w' (kfoot kb fv tv lv) (kfoot kb fv tv lv') := by
  obtain ⟨_, c1, c2, c3, cf⟩ := h.cells
  obtain ⟨g, cap, hfv, hg, hm, _⟩ := h.marks (by omega)
  obtain ⟨g2, cap2, htv, hg2, hm2, hz2⟩ := h.firsts (by omega)
  obtain ⟨g3, cap3, hlv, hg3, hm3⟩ := h.lnks (by omega)
  have hk := lt_of_blk h.blk
  have md := hm d hd
  have m2 := hm2 d (by omega)
  have hd' : (d : Int) < (F.length : Int) := by omega
  have hF' : (F.length : Int) ≤ 1048577 := by omega
  have HH := hide h
  cases od : onB F d
  · rw [od] at md
    obtain ⟨i0, hi, hz0, hz1, hzb⟩ := info_parts Try.infoLink
    have e1 : wtF F fs ls d = fs.set d ls.length := by simp [wtF, od]
    have e2 : wtL F fs ls n d = ls ++ [(n, fs.getD d 0)] := by simp [wtL, od]
    have HE := hide (And.intro e1 e2)
    obtain ⟨x, hx⟩ : ∃ x, x = fs.getD d 0 := ⟨_, rfl⟩
    rw [← hx] at m2
    have hone : ∀ u ∈ [Value.int .i64 (n : Int), .int .i64 (x : Int)], u.oneCell' = true := by
      intro u hu
      rcases List.mem_cons.1 hu with rfl | hu
      · rfl
      · rcases List.mem_cons.1 hu with rfl | hu
        · rfl
        · cases hu
    have hmx : ls.length + 1 ≤ maxLen := by unfold maxLen; omega
    have hby : (ls.length + 1) * 16 ≤ 140737488355328 := by omega
    have h0' : Fr [] w (w.drew.alloc (.cells #[.int .i64 (n : Int), .int .i64 (x : Int)] 75)) := ((Fr.refl [] w).drew).alloc _
    have HM := hide (And.intro hmx (And.intro hby (And.intro hone (And.intro h0' hx))))
    have d2 : (d : Int) < (fs.length : Int) := by omega
    have hfsb : (fs.length : Int) ≤ 1048577 := by omega
    have al : ∀ (a : Addr) (v : Value), w.cell? a = some v → (w.alloc (.cells #[.int .i64 (n : Int), .int .i64 (x : Int)] 75)).cell? a = some v := fun a v hv => by
      rw [World.cell?_of_block (w := w) (Below.heap_alloc _ _ _ (lt_of_cell hv))]; exact hv
    have c1' := c1
    rw [hfv] at c1
    rw [htv] at c2
    have c2a := al _ _ c2
    have c3a := al _ _ c3
    have m2a := al _ _ m2
    have HV := hide (And.intro hfv htv)
    clear h hm hm2 hm3 hmx hby hone h0' hx e1 e2 hlv al c1' hfv htv h0 od hz2 hg2 hg3
    have HB := hide (And.intro hd (And.intro hf (And.intro hF hl)))
    clear hd hf hF hl
    go_enter Try.func54, Try.ntmps54
    go_upto_region 1 with fail
    go_cut [13] from 13 to 31 (fun _ wx => ∃ v1, Hid (Kn wx kb fv tv v1 b F fs (ls ++ [(n, x)]) ∧ Mv w wx (kfoot kb fv tv lv) (kfoot kb fv tv v1)))
    case first =>
      go_region_law (refine step_append_own rfl (.tmp 17) (.tmp 27) 76 rfl 0 75 i0 (.agg #[.int .i64 0, .int .i64 0]) 2 16 Try.underlying76 hi hz0 hz1 hzb rfl (by decide) lv ls.length (ls.flatMap lnC) (by simp [Act.eval]) ((unhide HH).rl.drew.alloc _) ⟨w.heap.size, 0, none⟩ 1 1 [.int .i64 (n : Int), .int .i64 (x : Int)] (by simp [Act.eval]) rfl (cells_new2 w.drew _ _ _) (unhide HM).2.2.1 (unhide HM).1 (unhide HM).2.1 (Nat.zero_le _) ?_; intro v' w1 hown' hgrow hat; obtain ⟨k1, k2, k3, k4, g', cp, rfl⟩ := (unhide HH).growL (x := (n, x)) (unhide HM).2.2.2.1 hown' hgrow hat)
      all_goals
        go_wp2_with fail
        go_meet
        case rel => exact ⟨_, k1, k2⟩
    case rest =>
      obtain ⟨v1, HK⟩ := hcut
      obtain ⟨_, _, d2', d3, df⟩ := (unhide HK).1.cells
      obtain ⟨g4, cap4, hv1, _, _⟩ := (unhide HK).1.lnks (by simp)
      have z2 := own_frozen (unhide HK).1.rt (g := g2) (by rw [(unhide HV).2]; rfl)
      have z3 := nrow_cell (unhide HK).1.rt (g := g2) (by rw [(unhide HV).2]; rfl) (m := d) (by have := unhide HB; omega)
      have hll : (ls ++ [(n, x)]).length = ls.length + 1 := by simp
      rw [hll] at hv1
      rw [(unhide HV).2] at d2'
      rw [hv1] at d3
      have hlb : (ls.length : Int) ≤ 3145732 := by have := unhide HB; omega
      have hse : Hid (∀ v, Value.int .i64 v = .int .i64 (ls.length : Int) → (Kn (wc.setCell ⟨g2, d, none⟩ (.int .i64 v)).drew kb fv tv v1 b F (wtF F fs ls d) (wtL F fs ls n d) ∧ Mv w (wc.setCell ⟨g2, d, none⟩ (.int .i64 v)).drew (kfoot kb fv tv lv) (kfoot kb fv tv v1))) := by
        intro v hv
        rw [hv, (unhide HE).1, (unhide HE).2, ← (unhide HM).2.2.2.2]
        have k := unhide HK
        rw [(unhide HV).2] at k ⊢
        have := k.1.setT d ls.length
        exact ⟨this.1.bw (Below.refl _ _).drew, (k.2.trans this.2).after (Below.refl _ _).drew⟩
      have hz := z2 d
      have hk4 := lt_of_cell d2'
      have hk5 := lt_of_cell z3
      clear hll hv1 HE HM HV HB HH z2 c1 c2 c3 c2a c3a m2 m2a md hk hg cf df
      go_wp2_with fail
      go_region
      all_goals
        go_wp2_with fail
        go_end0
        exact ⟨rfl, _, unhide hse _ (by go_num)⟩
  · rw [od] at md
    have e1 : wtF F fs ls d = fs := by simp [wtF, od]
    have e2 : wtL F fs ls n d = ls := by simp [wtL, od]
    have HE := hide (And.intro e1 e2)
    rw [hfv] at c1
    clear h hm hm2 hm3 m2 c2 c3 hz2 hfv htv hlv e1 e2 hd hf hF hl h0 od cf
    generalize F.length = N at *
    go_enter Try.func54, Try.ntmps54
    go_wp2
    refine bodyPost_ret (v := .tuple #[]) (by simp [results, Try.results54, go_sem]) rfl ⟨rfl, lv, by rw [(unhide HE).1, (unhide HE).2]; exact unhide HH, Mv.refl _ _⟩

end Go.Proofs.Ytkaioidneknmjaa.Tn
