/- Texts joined: DkA DkB DkC. -/
import Derived.Test.YtfnpeiikjiffeaaGreatBaC
import Derived.Laws.CopyRow
/- Contracts of package disk: what only looks. -/
namespace Go.Proofs.YtfnpeiikjiffeaaGreat
open Go.RowKit Go.Maps

theorem eql_fn (w : World) (fn : Fn) (fs cs : Array Value) : (binOp .eql 75 (.func fn fs cs) .nilFunc).run Tryz.prog w = .ok (.bool false) w := by
  kernel_rfl
theorem eql_nilfn (w : World) : (binOp .eql 75 .nilFunc .nilFunc).run Tryz.prog w = .ok (.bool true) w := by
  kernel_rfl
set_option maxHeartbeats 2000000 in
theorem missing_any {d : Nat} {S : DS} {Z : List Nat} {w : World} (h : DkS w d S Z) :
    Calls Tryz.prog 47 #[ptr d] w fun e w' => e = .returned (.bool false) ∧ w' = w := by
  obtain ⟨nb, sb, cb, fv, cv, rfl, h1⟩ := h
  obtain ⟨_, _, _, _, _, _, _, c7, _⟩ := h1.cells
  obtain ⟨fn, fs, cs, rfl⟩ := h1.come.1
  unfold ptr
  clear h1
  have hq := fun w => eql_fn w fn fs cs
  go_enter Tryz.func47, Tryz.ntmps47
  go_wp2_with fail
  go_ret
  exact ⟨rfl, rfl⟩
theorem missing_nil (w : World) : Calls Tryz.prog 47 #[.pointer none] w fun e w' => e = .returned (.bool true) ∧ w' = w := by
  go_enter Tryz.func47, Tryz.ntmps47
  go_wp2_with fail
  go_ret
  exact ⟨rfl, rfl⟩
theorem missing_raw (w : World) (d : Nat) (hc : w.cell? ⟨d, 7, none⟩ = some .nilFunc) : Calls Tryz.prog 47 #[.pointer (some ⟨d, 0, none⟩)] w fun e w' => e = .returned (.bool true) ∧ w' = w := by
  have hq := eql_nilfn
  go_enter Tryz.func47, Tryz.ntmps47
  go_wp2_with fail
  go_ret
  exact ⟨rfl, rfl⟩
/-- The error of what is not up. -/
def rdy (b : Bool) : Int := if b = false then 6 else 0
theorem ready_any {d : Nat} {S : DS} {Z : List Nat} {w : World} (h : DkS w d S Z) :
    Calls Tryz.prog 45 #[ptr d] w fun e w' => e = .returned (.int .i64 (rdy S.up)) ∧ w' = w := by
  have K := missing_any h
  obtain ⟨nb, sb, cb, fv, cv, rfl, h1⟩ := h
  obtain ⟨_, c1, _, _, _, _, _, _, _⟩ := h1.cells
  clear h1
  generalize S.up = u at *
  unfold ptr at *
  unfold rdy
  cases u
  · simp only [if_true]
    go_enter Tryz.func45, Tryz.ntmps45
    go_wp2_with fail
    refine K.mono ?_
    rintro e w ⟨rfl, rfl⟩
    go_wp2_with fail
    go_ret
    exact ⟨rfl, rfl⟩
  · simp only [Bool.true_eq_false, if_false]
    go_enter Tryz.func45, Tryz.ntmps45
    go_wp2_with fail
    refine K.mono ?_
    rintro e w ⟨rfl, rfl⟩
    go_wp2_with fail
    go_ret
    exact ⟨rfl, rfl⟩
theorem ready_of (p : Value) (w : World) (K : Calls Tryz.prog 47 #[p] w fun e w' => e = .returned (.bool true) ∧ w' = w) :
    Calls Tryz.prog 45 #[p] w fun e w' => e = .returned (.int .i64 2) ∧ w' = w := by
  go_enter Tryz.func45, Tryz.ntmps45
  go_wp2_with fail
  refine K.mono ?_
  rintro e w ⟨rfl, rfl⟩
  go_wp2_with fail
  go_ret
  exact ⟨rfl, rfl⟩
theorem has_any {d : Nat} {S : DS} {Z : List Nat} {w : World} (h : DkS w d S Z) (x : Int) :
    Calls Tryz.prog 83 #[ptr d, .int .i64 x] w fun e w' => e = .returned (.bool (decide (0 ≤ x ∧ x < (S.N : Int)))) ∧ w' = w := by
  obtain ⟨nb, sb, cb, fv, cv, rfl, h1⟩ := h
  obtain ⟨c0, _, _, _, _, _, _, _, _⟩ := h1.cells
  clear h1
  generalize (S.N : Int) = n at *
  unfold ptr at *
  by_cases h0 : 0 ≤ x
  · have e : decide (0 ≤ x ∧ x < n) = decide (x < n) := by simp [h0]
    rw [e]
    clear e
    go_enter Tryz.func83, Tryz.ntmps83
    go_wp2_with fail
    go_ret
    exact ⟨rfl, rfl⟩
  · have e : decide (0 ≤ x ∧ x < n) = false := by simp [h0]
    rw [e]
    clear e
    go_enter Tryz.func83, Tryz.ntmps83
    go_wp2_with fail
    go_ret
    exact ⟨rfl, rfl⟩
theorem len_any {d : Nat} {S : DS} {Z : List Nat} {w : World} (h : DkS w d S Z) :
    Calls Tryz.prog 63 #[ptr d] w fun e w' => e = .returned (.int .i64 (S.N : Int)) ∧ w' = w := by
  have K := missing_any h
  obtain ⟨nb, sb, cb, fv, cv, rfl, h1⟩ := h
  obtain ⟨c0, c1, c2, c3, _, _, _, _, _⟩ := h1.cells
  clear h1
  generalize (S.N : Int) = n at *
  generalize (S.cnt : Int) = m at *
  generalize (S.since.length : Int) = q at *
  generalize S.up = u at *
  unfold ptr at *
  go_enter Tryz.func63, Tryz.ntmps63
  go_wp2_with fail
  refine K.mono ?_
  rintro e w ⟨rfl, rfl⟩
  go_wp2_with fail
  go_ret
  exact ⟨rfl, rfl⟩
theorem len_of (p : Value) (w : World) (K : Calls Tryz.prog 47 #[p] w fun e w' => e = .returned (.bool true) ∧ w' = w) :
    Calls Tryz.prog 63 #[p] w fun e w' => e = .returned (.int .i64 0) ∧ w' = w := by
  go_enter Tryz.func63, Tryz.ntmps63
  go_wp2_with fail
  refine K.mono ?_
  rintro e w ⟨rfl, rfl⟩
  go_wp2_with fail
  go_ret
  exact ⟨rfl, rfl⟩
theorem up_any {d : Nat} {S : DS} {Z : List Nat} {w : World} (h : DkS w d S Z) :
    Calls Tryz.prog 18 #[ptr d] w fun e w' => e = .returned (.bool S.up) ∧ w' = w := by
  have K := missing_any h
  obtain ⟨nb, sb, cb, fv, cv, rfl, h1⟩ := h
  obtain ⟨c0, c1, c2, c3, _, _, _, _, _⟩ := h1.cells
  clear h1
  generalize (S.N : Int) = n at *
  generalize (S.cnt : Int) = m at *
  generalize (S.since.length : Int) = q at *
  generalize S.up = u at *
  unfold ptr at *
  go_enter Tryz.func18, Tryz.ntmps18
  go_wp2_with fail
  refine K.mono ?_
  rintro e w ⟨rfl, rfl⟩
  go_wp2_with fail
  go_ret
  exact ⟨rfl, rfl⟩
theorem up_of (p : Value) (w : World) (K : Calls Tryz.prog 47 #[p] w fun e w' => e = .returned (.bool true) ∧ w' = w) :
    Calls Tryz.prog 18 #[p] w fun e w' => e = .returned (.bool false) ∧ w' = w := by
  go_enter Tryz.func18, Tryz.ntmps18
  go_wp2_with fail
  refine K.mono ?_
  rintro e w ⟨rfl, rfl⟩
  go_wp2_with fail
  go_ret
  exact ⟨rfl, rfl⟩

end Go.Proofs.YtfnpeiikjiffeaaGreat

/- Contracts of New, Start, Cut and settle of package disk. -/
namespace Go.Proofs.YtfnpeiikjiffeaaGreat
open Go.RowKit Go.Maps

theorem ComeAt.keep {w w' : World} {d cb : Nat} {cv : Value} {S S' : DS} (h : ComeAt w d cb cv S) (hu : S'.up = S.up) (hc : S'.cut = S.cut) (hb : S.up = true → S.cut ≠ none → w'.heap[cb]? = w.heap[cb]?) : ComeAt w' d cb cv S' := by
  refine ⟨h.1, fun q => ?_⟩
  rw [hc]
  have := h.2 (by rw [← hu]; exact q)
  cases e : S.cut with
  | none => rw [e] at this; exact this
  | some p =>
    obtain ⟨n, bits⟩ := p
    rw [e] at this
    exact ⟨this.1, this.2.1, by rw [hb (by rw [← hu]; exact q) (by rw [e]; simp)]; exact this.2.2⟩
theorem ComeAt.down {w : World} {d cb : Nat} {cv : Value} {S : DS} (h : ∃ fn fs cs, cv = .func fn fs cs) (hu : S.up = false) : ComeAt w d cb cv S := ⟨h, fun q => by rw [hu] at q; cases q⟩
theorem czone_eq {S S' : DS} (hu : S'.up = S.up) (hc : S'.cut = S.cut) (cb : Nat) : czone S' cb = czone S cb := by unfold czone; rw [hu, hc]

theorem new_low (n : Int) (w : World) (h : n < 1) : Calls Tryz.prog 13 #[.int .i64 n] w fun e w' => e = .returned (.tuple #[.pointer none, .int .i64 1]) ∧ w' = w := by
  go_enter Tryz.func13, Tryz.ntmps13
  go_wp2_with fail
  go_ret2
  exact ⟨rfl, rfl⟩
theorem new_high (n : Int) (w : World) (h : 4096 < n) : Calls Tryz.prog 13 #[.int .i64 n] w fun e w' => e = .returned (.tuple #[.pointer none, .int .i64 3]) ∧ w' = w := by
  have h1 : ¬ (n < 1) := by omega
  go_enter Tryz.func13, Tryz.ntmps13
  go_wp2_with fail
  go_ret2
  exact ⟨rfl, rfl⟩
theorem new_core (n : Int) (w : World) (h1 : 1 ≤ n) (h2 : n ≤ 4096) : Calls Tryz.prog 13 #[.int .i64 n] w fun e w' => e = .returned (.tuple #[ptr (w.heap.size + 2), .int .i64 0]) ∧ w' = ((w.alloc (.map #[] 0)).alloc (.map #[] 0)).alloc (.cells #[.int .i64 n, .bool true, .int .i64 0, .int .i64 0, .map (some w.heap.size), .map (some (w.heap.size + 1)), .slice none 0 0, comeF (w.heap.size + 2)] 77) := by
  have g1 : ¬ (n < 1) := by omega
  have g2 : ¬ (4096 < n) := by omega
  have hmm := @run_makeMap Tryz.prog
  unfold comeF ptr
  go_enter Tryz.func13, Tryz.ntmps13
  go_wp2_with fail
  go_ret2
  exact ⟨rfl, rfl⟩
theorem new_any (N : Nat) (w : World) (h1 : 1 ≤ N) (h2 : N ≤ 4096) : Calls Tryz.prog 13 #[.int .i64 (N : Int)] w fun e w' => ∃ d Z, e = .returned (.tuple #[ptr d, .int .i64 0]) ∧ DkS w' d (DS.new N) Z ∧ Below w.heap.size w w' ∧ ∀ x ∈ Z, w.heap.size ≤ x := by
  refine (new_core (N : Int) w (by omega) (by omega)).mono ?_
  rintro e w' ⟨rfl, rfl⟩
  have e1 : (w.alloc (.map #[] 0)).heap.size = w.heap.size + 1 := by simp
  have e2 : ((w.alloc (.map #[] 0)).alloc (.map #[] 0)).heap.size = w.heap.size + 2 := by simp
  generalize hC : (Obj.cells #[.int .i64 (N : Int), .bool true, .int .i64 0, .int .i64 0, .map (some w.heap.size), .map (some (w.heap.size + 1)), .slice none 0 0, comeF (w.heap.size + 2)] 77) = C
  have b2 : (((w.alloc (.map #[] 0)).alloc (.map #[] 0)).alloc C).heap[w.heap.size + 2]? = some C := by rw [← e2]; exact heap_alloc_new _ _
  have b1 : (((w.alloc (.map #[] 0)).alloc (.map #[] 0)).alloc C).heap[w.heap.size + 1]? = ((w.alloc (.map #[] 0)).alloc (.map #[] 0)).heap[w.heap.size + 1]? := Below.heap_alloc _ _ _ (by omega)
  have b0 : (((w.alloc (.map #[] 0)).alloc (.map #[] 0)).alloc C).heap[w.heap.size]? = (w.alloc (.map #[] 0)).heap[w.heap.size]? := by
    rw [Below.heap_alloc _ _ _ (by omega), Below.heap_alloc _ _ _ (by omega)]
  have m1 := BMap.made (w.alloc (.map #[] 0)) N (fun _ => nought)
  rw [e1] at m1
  refine ⟨w.heap.size + 2, _, rfl, ⟨w.heap.size, w.heap.size + 1, 0, .slice none 0 0, comeF (w.heap.size + 2), rfl, ?_, ⟨_, (BMap.made w N (fun _ => nought)).keep b0, fun _ _ _ => rfl⟩, m1.keep b1, World.ownsRow_nil _ _ _ _, ⟨⟨_, _, _, rfl⟩, fun _ => rfl⟩, DS.new_ok h1 h2, by omega⟩, ?_, ?_⟩
  · rw [b2, ← hC]; rfl
  · exact (((Below.refl _ _).alloc (Nat.le_refl _) _).alloc (by omega) _).alloc (by omega) _
  · intro x hx
    rcases mem_dfoot.1 hx with rfl | rfl | rfl | hx | ⟨_, _, h⟩
    · omega
    · omega
    · omega
    · simp [Value.ownBlock] at hx
    · simp [DS.new] at h

/-- The disk's struct alone. -/
def Raw (w : World) (d : Nat) (n : Int) (u : Bool) (m q : Int) (x4 x5 x6 cv : Value) : Prop := w.heap[d]? = some (.cells #[.int .i64 n, .bool u, .int .i64 m, .int .i64 q, x4, x5, x6, cv] 77 (0, 0))
theorem settle_raw {w : World} {d : Nat} {n : Int} {u : Bool} {m q : Int} {x4 x5 x6 cv : Value} (h : Raw w d n u m q x4 x5 x6 cv) :
    Calls Tryz.prog 72 #[ptr d] w fun e w' => e = .returned (.tuple #[]) ∧ Raw w' d n u m 0 x4 (.map (some w.heap.size)) (.slice none 0 0) cv ∧ Fr [d] w w' ∧ w'.heap[w.heap.size]? = some (.map #[] 0) := by
  unfold Raw at h
  have hlt := lt_of_blk h
  have c5 : ∀ o : Obj, (w.alloc o).cell? ⟨d, 5, none⟩ = some x5 := fun o => by simp [World.cell?, Below.heap_alloc _ _ _ hlt, h]
  have c6 : ∀ o : Obj, (w.alloc o).cell? ⟨d, 6, none⟩ = some x6 := fun o => by simp [World.cell?, Below.heap_alloc _ _ _ hlt, h]
  have c3 : ∀ o : Obj, (w.alloc o).cell? ⟨d, 3, none⟩ = some (.int .i64 q) := fun o => by simp [World.cell?, Below.heap_alloc _ _ _ hlt, h]
  have fz : ∀ (o : Obj) (j : Nat), (w.alloc o).frozen? ⟨d, j, none⟩ = false := fun o j => by simp [World.frozen?, Below.heap_alloc _ _ _ hlt, h]
  have w5 : w.cell? ⟨d, 5, none⟩ = some x5 := by simp [World.cell?, h]
  have w6 : w.cell? ⟨d, 6, none⟩ = some x6 := by simp [World.cell?, h]
  have w3 : w.cell? ⟨d, 3, none⟩ = some (.int .i64 q) := by simp [World.cell?, h]
  have wz : ∀ j, w.frozen? ⟨d, j, none⟩ = false := fun j => by simp [World.frozen?, h]
  have H := hide h
  clear h
  have hmm := @run_makeMap Tryz.prog
  unfold ptr
  go_enter Tryz.func72, Tryz.ntmps72
  go_wp2_with fail
  go_end0
  have hb := unhide H
  generalize hW : ((w.setCell ⟨d, 5, none⟩ (.map (some w.heap.size))).setCell ⟨d, 6, none⟩ (.slice none 0 0)).setCell ⟨d, 3, none⟩ (.int .i64 0) = W3
  have hF : Fr [d] w W3 := by
    rw [← hW]
    exact (((Fr.refl [d] w).setCell (Or.inr (by simp)) _).setCell (Or.inr (by simp)) _).setCell (Or.inr (by simp)) _
  have hs : W3.heap.size = w.heap.size := by rw [← hW]; simp [World.setCell]
  have h3 : W3.heap[d]? = some (.cells #[.int .i64 n, .bool u, .int .i64 m, .int .i64 0, x4, .map (some w.heap.size), .slice none 0 0, cv] 77 (0, 0)) := by
    rw [← hW]; simp [World.setCell, Array.getElem?_modify, hb]
  refine ⟨rfl, ?_, hF.alloc _, ?_⟩
  · unfold Raw; rw [Below.heap_alloc _ _ _ (by omega)]; exact h3
  · rw [← hs]; exact heap_alloc_new _ _
theorem bmap_new {w : World} {b N : Nat} (f : Nat → ByteArray) (h : w.heap[b]? = some (.map #[] 0)) : BMap w b N (fun _ => false) f := by
  refine ⟨.map [], own_bound (n := 0) ⟨#[], 0, h, ⟨by simp, ?_, by simp⟩, Nat.le_refl _, rfl⟩ (by simp [size]), BD.made N f⟩
  exact MapKept.stamped_empty 0
/-- Behind settle: a disk with nothing not synced. -/
theorem Dk.settled {w' : World} {d nb sb cb : Nat} {cv : Value} {S S' : DS} (hbk : Raw w' d S.N S'.up S.cnt 0 (.map (some nb)) (.map (some sb)) (.slice none 0 0) cv) (hnow : NMap w' nb S.N S'.base) (hsy : w'.heap[sb]? = some (.map #[] 0))
    (hN : S'.N = S.N) (hC : S'.cnt = S.cnt) (hs : S'.since = []) (hcome : ComeAt w' d cb cv S') (hok : S'.ok) (hne : nb ≠ sb) : Dk w' d nb sb cb (.slice none 0 0) cv S' := by
  unfold Raw at hbk
  refine ⟨by rw [hbk, hN, hC, hs]; rfl, ?_, ?_, ?_, hcome, hok, hne⟩
  · unfold DS.now; rw [hs, cur_nil, hN]; exact hnow
  · rw [hs]; exact bmap_new _ hsy
  · rw [hs]; exact World.ownsRow_nil _ _ _ _
theorem settle_any {d : Nat} {S : DS} {Z : List Nat} {w : World} (h : DkS w d S Z) :
    Calls Tryz.prog 72 #[ptr d] w fun e w' => e = .returned (.tuple #[]) ∧ ∃ Z', DkS w' d S.settle Z' ∧ Mv w w' Z Z' := by
  obtain ⟨nb, sb, cb, fv, cv, rfl, h1⟩ := h
  refine (settle_raw (w := w) (d := d) (by unfold Raw; exact h1.blk)).mono ?_
  rintro e w' ⟨rfl, hr, hf, hn⟩
  obtain ⟨a1, a2, _, _, _⟩ := h1.apart
  have hk : ∀ x, x < w.heap.size → x ≠ d → w'.heap[x]? = w.heap[x]? := fun x hx hne => hf.block x hx (by simpa using hne)
  refine ⟨rfl, _, ⟨nb, w.heap.size, cb, .slice none 0 0, cv, rfl, Dk.settled (S := S) (S' := S.settle) hr (h1.now.keep (hk nb h1.now.lt (Ne.symm a1))) hn rfl rfl rfl ?_ h1.ok.settle (Nat.ne_of_lt h1.now.lt)⟩, ?_, ?_⟩
  · refine h1.come.keep rfl rfl (fun q1 q2 => ?_)
    obtain ⟨b1, _⟩ := h1.apartC q1 q2
    obtain ⟨_, _, _, _, _, hb⟩ := h1.come.cut q1 q2
    exact hk cb (lt_of_blk hb) b1
  · exact hf.mono (fun x _ hx => mem_dfoot.2 (Or.inl (by simpa using hx)))
  · intro x hx
    rcases mem_dfoot.1 hx with rfl | rfl | rfl | hx | ⟨rfl, q1, q2⟩
    · exact Or.inl (mem_dfoot.2 (Or.inl rfl))
    · exact Or.inl (mem_dfoot.2 (Or.inr (Or.inl rfl)))
    · exact Or.inr (Nat.le_refl _)
    · simp [Value.ownBlock] at hx
    · exact Or.inl (mem_dfoot.2 (Or.inr (Or.inr (Or.inr (Or.inr ⟨rfl, q1, q2⟩)))))

theorem start_any {d : Nat} {S : DS} {Z : List Nat} {w : World} (h : DkS w d S Z) :
    Calls Tryz.prog 20 #[ptr d] w fun e w' => e = .returned (.int .i64 S.start.2) ∧ ∃ Z', DkS w' d S.start.1 Z' ∧ Mv w w' Z Z' := by
  have K := missing_any h
  obtain ⟨nb, sb, cb, fv, cv, rfl, h1⟩ := h
  obtain ⟨_, c1, _, _, _, _, _, c7, fz⟩ := h1.cells
  have H := hide h1
  clear h1
  unfold DS.start
  cases hu : S.up
  · rw [hu] at c1
    simp only [if_true]
    unfold ptr at *
    go_enter Tryz.func20, Tryz.ntmps20
    go_wp2_with fail
    refine K.mono ?_
    rintro e w ⟨rfl, rfl⟩
    go_wp2_with fail
    go_ret
    have h1 := unhide H
    obtain ⟨a1, a2, a3, a4, a5⟩ := h1.apart
    have hf : Fr [d] w ((w.setCell ⟨d, 1, none⟩ (.bool true)).setCell ⟨d, 7, none⟩ (comeF d)) := ((Fr.refl [d] w).setCell (Or.inr (by simp)) _).setCell (Or.inr (by simp)) _
    have hk : ∀ x, x ≠ d → ((w.setCell ⟨d, 1, none⟩ (.bool true)).setCell ⟨d, 7, none⟩ (comeF d)).heap[x]? = w.heap[x]? := fun x hne => by
      rw [Below.heap_setCell _ _ _ _ (by simpa using hne), Below.heap_setCell _ _ _ _ (by simpa using hne)]
    have hb := h1.blk
    refine ⟨rfl, _, ⟨nb, sb, cb, fv, comeF d, rfl, ?_, h1.now.keep (hk nb (Ne.symm a1)), h1.syn.keep (hk sb (Ne.symm a2)), own_keep h1.row (fun k hk' => hk k (fun c => a3 (by rw [← c]; exact hk'))), ⟨⟨_, _, _, rfl⟩, fun _ => rfl⟩, ⟨h1.ok.n1, h1.ok.n2, h1.ok.sz, h1.ok.ats⟩, h1.ne⟩, hf.mono (fun x _ hx => mem_dfoot.2 (Or.inl (by simpa using hx))), ?_⟩
    · simp [World.setCell, Array.getElem?_modify, hb]; rfl
    · intro x hx
      rcases mem_dfoot.1 hx with rfl | rfl | rfl | hx | ⟨_, _, q⟩
      · exact Or.inl (mem_dfoot.2 (Or.inl rfl))
      · exact Or.inl (mem_dfoot.2 (Or.inr (Or.inl rfl)))
      · exact Or.inl (mem_dfoot.2 (Or.inr (Or.inr (Or.inl rfl))))
      · exact Or.inl (mem_dfoot.2 (Or.inr (Or.inr (Or.inr (Or.inl hx)))))
      · exact absurd rfl q
  · rw [hu] at c1
    simp only [Bool.true_eq_false, if_false]
    unfold ptr at *
    go_enter Tryz.func20, Tryz.ntmps20
    go_wp2_with fail
    refine K.mono ?_
    rintro e w ⟨rfl, rfl⟩
    go_wp2_with fail
    go_ret
    exact ⟨rfl, _, ⟨nb, sb, cb, fv, cv, rfl, unhide H⟩, Mv.refl _ _⟩
theorem cut_any {d : Nat} {S : DS} {Z : List Nat} {w : World} (h : DkS w d S Z) (n bits : Int) (hn : n ≤ 9223372036854775807) :
    Calls Tryz.prog 17 #[ptr d, .int .i64 n, .int .i64 bits] w fun e w' => e = .returned (.int .i64 (S.doCut n bits).2) ∧ ∃ Z', DkS w' d (S.doCut n bits).1 Z' ∧ Mv w w' Z Z' := by
  have K := ready_any h
  obtain ⟨nb, sb, cb, fv, cv, rfl, h1⟩ := h
  obtain ⟨_, _, _, _, _, _, _, c7, fz⟩ := h1.cells
  have H := hide (And.intro h1 hn)
  clear h1 hn
  unfold DS.doCut
  cases hu : S.up
  · simp only [if_true]
    rw [hu] at K
    unfold rdy at K
    simp only [if_true] at K
    unfold ptr at *
    go_enter Tryz.func17, Tryz.ntmps17
    go_wp2_with fail
    refine K.mono ?_
    rintro e w ⟨rfl, rfl⟩
    go_wp2_with fail
    go_ret
    exact ⟨rfl, _, ⟨nb, sb, cb, fv, cv, rfl, (unhide H).1⟩, Mv.refl _ _⟩
  · simp only [Bool.true_eq_false, if_false]
    rw [hu] at K
    unfold rdy at K
    simp only [Bool.true_eq_false, if_false] at K
    unfold ptr at *
    by_cases h0 : n < 0
    · simp only [h0, if_true]
      go_enter Tryz.func17, Tryz.ntmps17
      go_wp2_with fail
      refine K.mono ?_
      rintro e w ⟨rfl, rfl⟩
      go_wp2_with fail
      go_ret
      exact ⟨rfl, _, ⟨nb, sb, cb, fv, cv, rfl, (unhide H).1⟩, Mv.refl _ _⟩
    · simp only [h0, if_false]
      have d7 : ∀ o : Obj, (w.alloc o).cell? ⟨d, 7, none⟩ = some cv := fun o => by rw [World.cell?_alloc_lt _ _ _ (World.block_lt_of_cell? w _ c7)]; exact c7
      have d7z : ∀ o : Obj, (w.alloc o).frozen? ⟨d, 7, none⟩ = false := fun o => by rw [World.frozen?_alloc_past _ _ _ (World.block_lt_of_cell? w _ c7)]; exact fz 7
      go_enter Tryz.func17, Tryz.ntmps17
      go_wp2_with fail
      refine K.mono ?_
      rintro e w ⟨rfl, rfl⟩
      go_wp2_with fail
      go_ret
      obtain ⟨h1, hn⟩ := unhide H
      obtain ⟨a1, a2, a3, a4, a5⟩ := h1.apart
      have hb := h1.blk
      have hlt := lt_of_blk hb
      have hf := ((Fr.refl [d] w).alloc (.cells #[.pointer (some ⟨d, 0, none⟩), .int .i64 n, .int .i64 bits] 90)).setCell (a := ⟨d, 7, none⟩) (Or.inr (by simp)) (cutF w.heap.size)
      have hk : ∀ x, x < w.heap.size → x ≠ d → _ := fun x hx hne => hf.block x hx (by simpa using hne)
      refine ⟨rfl, _, ⟨nb, sb, w.heap.size, fv, cutF w.heap.size, rfl, ?_, h1.now.keep (hk nb h1.now.lt (Ne.symm a1)), h1.syn.keep (hk sb h1.syn.lt (Ne.symm a2)), own_keep h1.row (fun k hk' => hk k (World.ownsRow.lt h1.row k hk').2 (fun c => a3 (by rw [← c]; exact hk'))), ⟨⟨_, _, _, rfl⟩, fun _ => ⟨rfl, by omega, ?_⟩⟩, ⟨h1.ok.n1, h1.ok.n2, h1.ok.sz, h1.ok.ats⟩, h1.ne⟩, hf.mono (fun x _ hx => mem_dfoot.2 (Or.inl (by simpa using hx))), ?_⟩
      · have : (w.alloc (.cells #[.pointer (some ⟨d, 0, none⟩), .int .i64 n, .int .i64 bits] 90)).heap[d]? = _ := (Below.heap_alloc _ _ _ hlt).trans hb
        simp [World.setCell, Array.getElem?_modify, this]
        exact ⟨hu, rfl⟩
      · have e : ((n.toNat : Nat) : Int) = n := by omega
        rw [e, Below.heap_setCell _ _ _ _ (by simp; omega)]
        exact heap_alloc_new _ _
      · intro x hx
        rcases mem_dfoot.1 hx with rfl | rfl | rfl | hx | ⟨rfl, _, q⟩
        · exact Or.inl (mem_dfoot.2 (Or.inl rfl))
        · exact Or.inl (mem_dfoot.2 (Or.inr (Or.inl rfl)))
        · exact Or.inl (mem_dfoot.2 (Or.inr (Or.inr (Or.inl rfl))))
        · exact Or.inl (mem_dfoot.2 (Or.inr (Or.inr (Or.inr (Or.inl hx)))))
        · exact Or.inr (Nat.le_refl _)

end Go.Proofs.YtfnpeiikjiffeaaGreat

/- Contract of torn of package disk. -/
namespace Go.Proofs.YtfnpeiikjiffeaaGreat
open Go.RowKit Go.Maps

theorem infoRow {B : Array Value} (h : B.size = 64) : (Tryz.prog.info? 123).map (·.size) = some B.size := by rw [h]; exact Tryz.infoBlock
theorem three_new (w : World) (A B C : Obj) : (((w.alloc A).alloc B).alloc C).heap[w.heap.size]? = some A ∧ (((w.alloc A).alloc B).alloc C).heap[w.heap.size + 1]? = some B ∧ (((w.alloc A).alloc B).alloc C).heap[w.heap.size + 1 + 1]? = some C ∧ Below w.heap.size w (((w.alloc A).alloc B).alloc C) := by
  have e1 : (w.alloc A).heap.size = w.heap.size + 1 := by simp
  have e2 : ((w.alloc A).alloc B).heap.size = w.heap.size + 2 := by simp
  refine ⟨?_, ?_, ?_, (((Below.refl _ _).alloc (Nat.le_refl _) _).alloc (by omega) _).alloc (by omega) _⟩
  · rw [Below.heap_alloc _ _ _ (by omega), Below.heap_alloc _ _ _ (by omega)]; exact heap_alloc_new _ _
  · rw [Below.heap_alloc _ _ _ (by omega), ← e1]; exact heap_alloc_new _ _
  · rw [show w.heap.size + 1 + 1 = ((w.alloc A).alloc B).heap.size by omega]; exact heap_alloc_new _ _
theorem below_setRow {n : Nat} {w W : World} (h : Below n w W) {g : Nat} (hg : n ≤ g) (c : Array Value) : Below n w (W.setRow g c) :=
  ⟨by simpa using h.os, by simpa using h.tape, by simpa using h.output, by simpa using h.size, fun k hk => by rw [setRow_other _ _ _ _ (by omega)]; exact h.block k hk⟩
theorem copy_half (w : World) (g1 g2 o : Nat) (B O : Array Value) (hB : B.size = 64) (hO : O.size = 64) (ho : o = 0 ∨ o = 32) (h1 : w.heap[g1]? = some (.cells B 123 (0, 0))) (h2 : w.heap[g2]? = some (.cells O 123 (0, 0))) (hO1 : O.all (·.oneCell') = true) (c1 c2 : Nat) :
    (Builtin.copy_ #[59, 59] 3 #[.slice (some ⟨g1, o, none⟩) 32 c1, .slice (some ⟨g2, o, none⟩) 32 c2]).run Tryz.prog w = .ok (.int .i64 32) (w.setRow g1 (B.toList.take o ++ (O.toList.drop o).take 32 ++ B.toList.drop (o + 32)).toArray) := by
  have hl : ((O.toList.drop o).take 32).length = 32 := by simp; omega
  have := run_copy_row Tryz.prog w 59 59 3 5 g1 o 32 c1 ⟨g2, o, none⟩ 32 c2 B 123 ((O.toList.drop o).take 32) Tryz.underlying59 Tryz.infoU8 h1 (by rw [hl]; rfl) ?_ (by rw [hl]; omega) ?_
  · rw [hl] at this; exact this
  · intro j v hv
    rw [Addr.add_mid, cell_of_row w g2 _ O 123 (0, 0) h2]
    rw [List.getElem?_take] at hv
    split at hv
    · rw [List.getElem?_drop] at hv; simpa using hv
    · cases hv
  · intro v hv
    have := List.mem_of_mem_drop (List.mem_of_mem_take hv)
    exact Array.all_eq_true_iff_forall_mem.1 hO1 v (by simpa using this)

set_option maxRecDepth 100000 in
set_option maxHeartbeats 2000000 in
theorem torn_one (B O : Array Value) (hB : B.size = 64) (hO : O.size = 64) (_hB1 : B.all (·.oneCell') = true) (hO1 : O.all (·.oneCell') = true) (how : Int) (hh : how = 1) (w : World) :
    Calls Tryz.prog 71 #[.agg B, .agg O, .int .i64 how] w fun e w' => e = .returned (.agg O) ∧ Below w.heap.size w w' := by
  subst hh
  go_enter Tryz.func71, Tryz.ntmps71
  go_upto_region 1 with fail
  generalize hW : ((w.alloc (Obj.cells B 123)).alloc (Obj.cells O 123)).alloc _ = W0
  obtain ⟨C, hCs, g2⟩ : ∃ C : Array Value, C.size = 64 ∧ W0.heap[w.heap.size + 1 + 1]? = some (.cells C 123 (0, 0)) := by
    refine ⟨_, ?_, by rw [← hW]; exact (three_new w _ _ _).2.2.1⟩
    rfl
  have g0 : W0.heap[w.heap.size]? = some (.cells B 123 (0, 0)) := by rw [← hW]; exact (three_new w _ _ _).1
  have g1 : W0.heap[w.heap.size + 1]? = some (.cells O 123 (0, 0)) := by rw [← hW]; exact (three_new w _ _ _).2.1
  have gb : Below w.heap.size w W0 := by rw [← hW]; exact (three_new w _ _ _).2.2.2
  clear hW
  have H := hide (And.intro g0 (And.intro g1 (And.intro g2 gb)))
  clear g0 g1 g2 gb
  have k0 := hide (setRow_heap W0 w.heap.size B O 123 (0, 0) (unhide H).1)
  have k2 := hide ((setRow_other W0 w.heap.size (w.heap.size + 1 + 1) O (by omega)).trans (unhide H).2.2.1)
  have kb := hide (below_setRow (unhide H).2.2.2 (Nat.le_refl _) O)
  go_wp2_with (first | refine wpList_load_row rfl 123 (.tmp 4) rfl (w.heap.size + 1) rfl 123 O (0, 0) _ (unhide H).2.1 Tryz.underlying123 rfl (infoRow hO) ?_ | refine wpList_store_row rfl 123 (.tmp 3) (.tmp 10) rfl w.heap.size O rfl rfl 123 B (unhide H).1 (infoRow hO) (by omega) hO1 ?_ | refine wpList_load_row rfl 123 (.tmp 3) rfl w.heap.size rfl 123 O (0, 0) _ (unhide k0) Tryz.underlying123 rfl (infoRow hO) ?_ | refine wpList_store_row rfl 123 (.tmp 6) (.tmp 21) rfl (w.heap.size + 1 + 1) O rfl rfl 123 C (unhide k2) (infoRow hO) (by omega) hO1 ?_)
  refine bodyPost_ret (v := .agg O) (results_cell_row Tryz.results71 _ _ (w.heap.size + 1 + 1) 123 O (0, 0) _ rfl (setRow_heap _ _ _ _ _ _ (unhide k2)) Tryz.underlying123 rfl (infoRow hO)) rfl ⟨rfl, below_setRow (unhide kb) (by omega) _⟩
set_option maxRecDepth 100000 in
set_option maxHeartbeats 2000000 in
theorem torn_two (B O R : Array Value) (hB : B.size = 64) (hO : O.size = 64) (_hB1 : B.all (·.oneCell') = true) (hO1 : O.all (·.oneCell') = true) (how : Int) (hh : how = 2) (hRe : R = (B.toList.take 0 ++ (O.toList.drop 0).take 32 ++ B.toList.drop (0 + 32)).toArray) (hR : R.size = 64) (hR1 : R.all (·.oneCell') = true) (w : World) :
    Calls Tryz.prog 71 #[.agg B, .agg O, .int .i64 how] w fun e w' => e = .returned (.agg R) ∧ Below w.heap.size w w' := by
  subst hh
  go_enter Tryz.func71, Tryz.ntmps71
  go_upto_region 1 with fail
  generalize hW : ((w.alloc (Obj.cells B 123)).alloc (Obj.cells O 123)).alloc _ = W0
  obtain ⟨C, hCs, g2⟩ : ∃ C : Array Value, C.size = 64 ∧ W0.heap[w.heap.size + 1 + 1]? = some (.cells C 123 (0, 0)) := by
    refine ⟨_, ?_, by rw [← hW]; exact (three_new w _ _ _).2.2.1⟩
    rfl
  have g0 : W0.heap[w.heap.size]? = some (.cells B 123 (0, 0)) := by rw [← hW]; exact (three_new w _ _ _).1
  have g1 : W0.heap[w.heap.size + 1]? = some (.cells O 123 (0, 0)) := by rw [← hW]; exact (three_new w _ _ _).2.1
  have gb : Below w.heap.size w W0 := by rw [← hW]; exact (three_new w _ _ _).2.2.2
  clear hW
  have hcp : ∀ c1 c2, (Builtin.copy_ #[59, 59] 3 #[.slice (some ⟨w.heap.size, 0, none⟩) 32 c1, .slice (some ⟨w.heap.size + 1, 0, none⟩) 32 c2]).run Tryz.prog W0.drew = .ok (.int .i64 32) (W0.drew.setRow w.heap.size R) := by
    intro c1 c2; rw [hRe]
    exact copy_half W0.drew _ _ 0 B O hB hO (by omega) g0 g1 hO1 c1 c2
  have k0 := setRow_heap W0.drew w.heap.size B R 123 (0, 0) g0
  have k2 := (setRow_other W0.drew w.heap.size (w.heap.size + 1 + 1) R (by omega)).trans g2
  have kb := below_setRow (w := w) (W := W0.drew) ⟨gb.os, gb.tape, gb.output, gb.size, gb.block⟩ (Nat.le_refl w.heap.size) R
  generalize W0.drew.setRow w.heap.size R = W1 at *
  have HK := hide (And.intro k0 (And.intro k2 (And.intro kb hRe)))
  clear k0 k2 kb g0 g1 g2 gb hRe
  go_wp2_with fail
  go_region
  all_goals
    go_wp2_with (first | refine wpList_load_row rfl 123 (.tmp 3) rfl w.heap.size rfl 123 R (0, 0) _ (unhide HK).1 Tryz.underlying123 rfl (infoRow hR) ?_ | refine wpList_store_row rfl 123 (.tmp 6) (.tmp 21) rfl (w.heap.size + 1 + 1) R rfl rfl 123 C (unhide HK).2.1 (infoRow hR) (by omega) hR1 ?_)
    refine bodyPost_ret (v := .agg R) (results_cell_row Tryz.results71 _ _ (w.heap.size + 1 + 1) 123 R (0, 0) _ rfl (setRow_heap _ _ _ _ _ _ (unhide HK).2.1) Tryz.underlying123 rfl (infoRow hR)) rfl ⟨rfl, below_setRow (unhide HK).2.2.1 (by omega) _⟩
set_option maxRecDepth 100000 in
set_option maxHeartbeats 2000000 in
theorem torn_three (B O R : Array Value) (hB : B.size = 64) (hO : O.size = 64) (_hB1 : B.all (·.oneCell') = true) (hO1 : O.all (·.oneCell') = true) (how : Int) (hh : how = 3) (hRe : R = (B.toList.take 32 ++ (O.toList.drop 32).take 32 ++ B.toList.drop (32 + 32)).toArray) (hR : R.size = 64) (hR1 : R.all (·.oneCell') = true) (w : World) :
    Calls Tryz.prog 71 #[.agg B, .agg O, .int .i64 how] w fun e w' => e = .returned (.agg R) ∧ Below w.heap.size w w' := by
  subst hh
  go_enter Tryz.func71, Tryz.ntmps71
  go_upto_region 1 with fail
  generalize hW : ((w.alloc (Obj.cells B 123)).alloc (Obj.cells O 123)).alloc _ = W0
  obtain ⟨C, hCs, g2⟩ : ∃ C : Array Value, C.size = 64 ∧ W0.heap[w.heap.size + 1 + 1]? = some (.cells C 123 (0, 0)) := by
    refine ⟨_, ?_, by rw [← hW]; exact (three_new w _ _ _).2.2.1⟩
    rfl
  have g0 : W0.heap[w.heap.size]? = some (.cells B 123 (0, 0)) := by rw [← hW]; exact (three_new w _ _ _).1
  have g1 : W0.heap[w.heap.size + 1]? = some (.cells O 123 (0, 0)) := by rw [← hW]; exact (three_new w _ _ _).2.1
  have gb : Below w.heap.size w W0 := by rw [← hW]; exact (three_new w _ _ _).2.2.2
  clear hW
  have hcp : ∀ c1 c2, (Builtin.copy_ #[59, 59] 3 #[.slice (some ⟨w.heap.size, 32, none⟩) 32 c1, .slice (some ⟨w.heap.size + 1, 32, none⟩) 32 c2]).run Tryz.prog W0.drew = .ok (.int .i64 32) (W0.drew.setRow w.heap.size R) := by
    intro c1 c2; rw [hRe]
    exact copy_half W0.drew _ _ 32 B O hB hO (by omega) g0 g1 hO1 c1 c2
  have k0 := setRow_heap W0.drew w.heap.size B R 123 (0, 0) g0
  have k2 := (setRow_other W0.drew w.heap.size (w.heap.size + 1 + 1) R (by omega)).trans g2
  have kb := below_setRow (w := w) (W := W0.drew) ⟨gb.os, gb.tape, gb.output, gb.size, gb.block⟩ (Nat.le_refl w.heap.size) R
  generalize W0.drew.setRow w.heap.size R = W1 at *
  have HK := hide (And.intro k0 (And.intro k2 (And.intro kb hRe)))
  clear k0 k2 kb g0 g1 g2 gb hRe
  go_wp2_with fail
  go_region
  all_goals
    go_wp2_with (first | refine wpList_load_row rfl 123 (.tmp 3) rfl w.heap.size rfl 123 R (0, 0) _ (unhide HK).1 Tryz.underlying123 rfl (infoRow hR) ?_ | refine wpList_store_row rfl 123 (.tmp 6) (.tmp 21) rfl (w.heap.size + 1 + 1) R rfl rfl 123 C (unhide HK).2.1 (infoRow hR) (by omega) hR1 ?_)
    refine bodyPost_ret (v := .agg R) (results_cell_row Tryz.results71 _ _ (w.heap.size + 1 + 1) 123 R (0, 0) _ rfl (setRow_heap _ _ _ _ _ _ (unhide HK).2.1) Tryz.underlying123 rfl (infoRow hR)) rfl ⟨rfl, below_setRow (unhide HK).2.2.1 (by omega) _⟩
set_option maxRecDepth 100000 in
set_option maxHeartbeats 2000000 in
theorem torn_nil (B O : Array Value) (hB : B.size = 64) (_hO : O.size = 64) (hB1 : B.all (·.oneCell') = true) (_hO1 : O.all (·.oneCell') = true) (how : Int) (hh : how ≠ 1 ∧ how ≠ 2 ∧ how ≠ 3) (w : World) :
    Calls Tryz.prog 71 #[.agg B, .agg O, .int .i64 how] w fun e w' => e = .returned (.agg B) ∧ Below w.heap.size w w' := by
  have z1 : (how == 1) = false := by simpa using hh.1
  have z2 : (how == 2) = false := by simpa using hh.2.1
  have z3 : (how == 3) = false := by simpa using hh.2.2
  have y1 : decide (how = 1) = false := by simpa using hh.1
  have y2 : decide (how = 2) = false := by simpa using hh.2.1
  have y3 : decide (how = 3) = false := by simpa using hh.2.2
  clear hh
  go_enter Tryz.func71, Tryz.ntmps71
  go_upto_region 1 with fail
  generalize hW : ((w.alloc (Obj.cells B 123)).alloc (Obj.cells O 123)).alloc _ = W0
  obtain ⟨C, hCs, g2⟩ : ∃ C : Array Value, C.size = 64 ∧ W0.heap[w.heap.size + 1 + 1]? = some (.cells C 123 (0, 0)) := by
    refine ⟨_, ?_, by rw [← hW]; exact (three_new w _ _ _).2.2.1⟩
    rfl
  have g0 : W0.heap[w.heap.size]? = some (.cells B 123 (0, 0)) := by rw [← hW]; exact (three_new w _ _ _).1
  have g1 : W0.heap[w.heap.size + 1]? = some (.cells O 123 (0, 0)) := by rw [← hW]; exact (three_new w _ _ _).2.1
  have gb : Below w.heap.size w W0 := by rw [← hW]; exact (three_new w _ _ _).2.2.2
  clear hW
  have HK := hide (And.intro g0 (And.intro g2 gb))
  clear g0 g1 g2 gb
  go_wp2_with (first | refine wpList_load_row rfl 123 (.tmp 3) rfl w.heap.size rfl 123 B (0, 0) _ (unhide HK).1 Tryz.underlying123 rfl (infoRow hB) ?_ | refine wpList_store_row rfl 123 (.tmp 6) (.tmp 21) rfl (w.heap.size + 1 + 1) B rfl rfl 123 C (unhide HK).2.1 (infoRow hB) (by omega) hB1 ?_)
  refine bodyPost_ret (v := .agg B) (results_cell_row Tryz.results71 _ _ (w.heap.size + 1 + 1) 123 B (0, 0) _ rfl (setRow_heap _ _ _ _ _ _ (unhide HK).2.1) Tryz.underlying123 rfl (infoRow hB)) rfl ⟨rfl, below_setRow (unhide HK).2.2 (by omega) _⟩
theorem blk_one (s : ByteArray) : (blkC s).toArray.all (·.oneCell') = true := all_oneCell_toArray (blkC_one s)
theorem blk_sz {s : ByteArray} (h : s.size = 64) : (blkC s).toArray.size = 64 := by simp [blkC_len, h]
theorem torn_any (b s : ByteArray) (how : Int) (hb : b.size = 64) (hs : s.size = 64) (w : World) :
    Calls Tryz.prog 71 #[blkV b, blkV s, .int .i64 how] w fun e w' => e = .returned (blkV (torn b s how)) ∧ Below w.heap.size w w' := by
  have hR := blk_sz (torn_size how hb hs)
  have hR1 := blk_one (torn b s how)
  unfold blkV
  by_cases h1 : how = 1
  · rw [show torn b s how = s by simp [torn, h1]]
    exact torn_one _ _ (blk_sz hb) (blk_sz hs) (blk_one b) (blk_one s) how h1 w
  by_cases h2 : how = 2
  · refine torn_two _ _ _ (blk_sz hb) (blk_sz hs) (blk_one b) (blk_one s) how h2 ?_ hR hR1 w
    simp only [torn, h2, show ¬ ((2 : Int) = 1) by decide, if_false, if_true, blkC_app, blkC_ext]
    have : (blkC b).take 64 = blkC b := List.take_of_length_le (by rw [blkC_len]; omega)
    rw [this]; simp
  by_cases h3 : how = 3
  · refine torn_three _ _ _ (blk_sz hb) (blk_sz hs) (blk_one b) (blk_one s) how h3 ?_ hR hR1 w
    simp only [torn, h3, show ¬ ((3 : Int) = 1) by decide, show ¬ ((3 : Int) = 2) by decide, if_false, if_true, blkC_app, blkC_ext]
    have : (blkC s).take 64 = blkC s := List.take_of_length_le (by rw [blkC_len]; omega)
    have h4 : ((blkC s).drop 32).take 32 = (blkC s).drop 32 := List.take_of_length_le (by rw [List.length_drop, blkC_len]; omega)
    have h5 : (blkC b).drop 64 = [] := List.drop_eq_nil_of_le (by rw [blkC_len]; omega)
    rw [this]; simp [h4, h5]
  · rw [show torn b s how = b by simp [torn, h1, h2, h3]]
    exact torn_nil _ _ (blk_sz hb) (blk_sz hs) (blk_one b) (blk_one s) how ⟨h1, h2, h3⟩ w

end Go.Proofs.YtfnpeiikjiffeaaGreat
