/- Contracts of New, Start, Cut and settle of package disk. -/
import Derived.Test.YtimhjheigejjmabDkA
namespace Go.Proofs.Ytimhjheigejjmab
open Go.RowKit Go.Maps

theorem ComeAt.keep {w w' : World} {d cb : Nat} {cv : Value} {S S' : DS} (h : ComeAt w d cb cv S) (hu : S'.up = S.up) (hc : S'.cut = S.cut) (hb : S.up = true → S.cut ≠ none → w'.heap[cb]? = w.heap[cb]?) : ComeAt w' d cb cv S' := by
  refine ⟨h.1, fun q => ?_⟩
  rw [hc]
  have := h.2 (by rw [← hu]; exact q)
  cases e : S.cut with
  | none => rw [e] at this; exact this
  | some p =>
    obtain ⟨n, bits⟩ := p
    rw [e] at this
    exact ⟨this.1, this.2.1, by rw [hb (by rw [← hu]; exact q) (by rw [e]; simp)]; exact this.2.2⟩
theorem ComeAt.down {w : World} {d cb : Nat} {cv : Value} {S : DS} (h : ∃ fn fs cs, cv = .func fn fs cs) (hu : S.up = false) : ComeAt w d cb cv S := ⟨h, fun q => by rw [hu] at q; cases q⟩
theorem czone_eq {S S' : DS} (hu : S'.up = S.up) (hc : S'.cut = S.cut) (cb : Nat) : czone S' cb = czone S cb := by unfold czone; rw [hu, hc]

theorem new_low (n : Int) (w : World) (h : n < 1) : Calls Try.prog 9 #[.int .i64 n] w fun e w' => e = .returned (.tuple #[.pointer none, .int .i64 1]) ∧ w' = w := by
  go_enter Try.func9, Try.ntmps9
  go_wp2_with fail
  go_ret2
  exact ⟨rfl, rfl⟩
theorem new_high (n : Int) (w : World) (h : 4096 < n) : Calls Try.prog 9 #[.int .i64 n] w fun e w' => e = .returned (.tuple #[.pointer none, .int .i64 3]) ∧ w' = w := by
  have h1 : ¬ (n < 1) := by omega
  go_enter Try.func9, Try.ntmps9
  go_wp2_with fail
  go_ret2
  exact ⟨rfl, rfl⟩
theorem new_core (n : Int) (w : World) (h1 : 1 ≤ n) (h2 : n ≤ 4096) : Calls Try.prog 9 #[.int .i64 n] w fun e w' => e = .returned (.tuple #[ptr (w.heap.size + 2), .int .i64 0]) ∧ w' = ((w.alloc (.map #[] 0)).alloc (.map #[] 0)).alloc (.cells #[.int .i64 n, .bool true, .int .i64 0, .int .i64 0, .map (some w.heap.size), .map (some (w.heap.size + 1)), .slice none 0 0, comeF (w.heap.size + 2)] 72) := by
  have g1 : ¬ (n < 1) := by omega
  have g2 : ¬ (4096 < n) := by omega
  have hmm := @run_makeMap Try.prog
  unfold comeF ptr
  go_enter Try.func9, Try.ntmps9
  go_wp2_with fail
  go_ret2
  exact ⟨rfl, rfl⟩
theorem new_any (N : Nat) (w : World) (h1 : 1 ≤ N) (h2 : N ≤ 4096) : Calls Try.prog 9 #[.int .i64 (N : Int)] w fun e w' => ∃ d Z, e = .returned (.tuple #[ptr d, .int .i64 0]) ∧ DkS w' d (DS.new N) Z ∧ Below w.heap.size w w' ∧ ∀ x ∈ Z, w.heap.size ≤ x := by
  refine (new_core (N : Int) w (by omega) (by omega)).mono ?_
  rintro e w' ⟨rfl, rfl⟩
  have e1 : (w.alloc (.map #[] 0)).heap.size = w.heap.size + 1 := by simp
  have e2 : ((w.alloc (.map #[] 0)).alloc (.map #[] 0)).heap.size = w.heap.size + 2 := by simp
  generalize hC : (Obj.cells #[.int .i64 (N : Int), .bool true, .int .i64 0, .int .i64 0, .map (some w.heap.size), .map (some (w.heap.size + 1)), .slice none 0 0, comeF (w.heap.size + 2)] 72) = C
  have b2 : (((w.alloc (.map #[] 0)).alloc (.map #[] 0)).alloc C).heap[w.heap.size + 2]? = some C := by rw [← e2]; exact heap_alloc_new _ _
  have b1 : (((w.alloc (.map #[] 0)).alloc (.map #[] 0)).alloc C).heap[w.heap.size + 1]? = ((w.alloc (.map #[] 0)).alloc (.map #[] 0)).heap[w.heap.size + 1]? := Below.heap_alloc _ _ _ (by omega)
  have b0 : (((w.alloc (.map #[] 0)).alloc (.map #[] 0)).alloc C).heap[w.heap.size]? = (w.alloc (.map #[] 0)).heap[w.heap.size]? := by
    rw [Below.heap_alloc _ _ _ (by omega), Below.heap_alloc _ _ _ (by omega)]
  have m1 := BMap.made (w.alloc (.map #[] 0)) N (fun _ => nought)
  rw [e1] at m1
  refine ⟨w.heap.size + 2, _, rfl, ⟨w.heap.size, w.heap.size + 1, 0, .slice none 0 0, comeF (w.heap.size + 2), rfl, ?_, ⟨_, (BMap.made w N (fun _ => nought)).keep b0, fun _ _ _ => rfl⟩, m1.keep b1, World.ownsRow_nil _ _ _ _, ⟨⟨_, _, _, rfl⟩, fun _ => rfl⟩, DS.new_ok h1 h2, by omega⟩, ?_, ?_⟩
  · rw [b2, ← hC]; rfl
  · exact (((Below.refl _ _).alloc (Nat.le_refl _) _).alloc (by omega) _).alloc (by omega) _
  · intro x hx
    rcases mem_dfoot.1 hx with rfl | rfl | rfl | hx | ⟨_, _, h⟩
    · omega
    · omega
    · omega
    · simp [Value.ownBlock] at hx
    · simp [DS.new] at h

/-- The disk's struct alone. -/
def Raw (w : World) (d : Nat) (n : Int) (u : Bool) (m q : Int) (x4 x5 x6 cv : Value) : Prop := w.heap[d]? = some (.cells #[.int .i64 n, .bool u, .int .i64 m, .int .i64 q, x4, x5, x6, cv] 72 (0, 0))
theorem settle_raw {w : World} {d : Nat} {n : Int} {u : Bool} {m q : Int} {x4 x5 x6 cv : Value} (h : Raw w d n u m q x4 x5 x6 cv) :
    Calls Try.prog 40 #[ptr d] w fun e w' => e = .returned (.tuple #[]) ∧ Raw w' d n u m 0 x4 (.map (some w.heap.size)) (.slice none 0 0) cv ∧ Fr [d] w w' ∧ w'.heap[w.heap.size]? = some (.map #[] 0) := by
  unfold Raw at h
  have hlt := lt_of_blk h
  have c5 : ∀ o : Obj, (w.alloc o).cell? ⟨d, 5, none⟩ = some x5 := fun o => by simp [World.cell?, Below.heap_alloc _ _ _ hlt, h]
  have c6 : ∀ o : Obj, (w.alloc o).cell? ⟨d, 6, none⟩ = some x6 := fun o => by simp [World.cell?, Below.heap_alloc _ _ _ hlt, h]
  have c3 : ∀ o : Obj, (w.alloc o).cell? ⟨d, 3, none⟩ = some (.int .i64 q) := fun o => by simp [World.cell?, Below.heap_alloc _ _ _ hlt, h]
  have fz : ∀ (o : Obj) (j : Nat), (w.alloc o).frozen? ⟨d, j, none⟩ = false := fun o j => by simp [World.frozen?, Below.heap_alloc _ _ _ hlt, h]
  have w5 : w.cell? ⟨d, 5, none⟩ = some x5 := by simp [World.cell?, h]
  have w6 : w.cell? ⟨d, 6, none⟩ = some x6 := by simp [World.cell?, h]
  have w3 : w.cell? ⟨d, 3, none⟩ = some (.int .i64 q) := by simp [World.cell?, h]
  have wz : ∀ j, w.frozen? ⟨d, j, none⟩ = false := fun j => by simp [World.frozen?, h]
  have H := hide h
  clear h
  have hmm := @run_makeMap Try.prog
  unfold ptr
  go_enter Try.func40, Try.ntmps40
  go_wp2_with fail
  go_end0
  have hb := unhide H
  generalize hW : ((w.setCell ⟨d, 5, none⟩ (.map (some w.heap.size))).setCell ⟨d, 6, none⟩ (.slice none 0 0)).setCell ⟨d, 3, none⟩ (.int .i64 0) = W3
  have hF : Fr [d] w W3 := by
    rw [← hW]
    exact (((Fr.refl [d] w).setCell (Or.inr (by simp)) _).setCell (Or.inr (by simp)) _).setCell (Or.inr (by simp)) _
  have hs : W3.heap.size = w.heap.size := by rw [← hW]; simp [World.setCell]
  have h3 : W3.heap[d]? = some (.cells #[.int .i64 n, .bool u, .int .i64 m, .int .i64 0, x4, .map (some w.heap.size), .slice none 0 0, cv] 72 (0, 0)) := by
    rw [← hW]; simp [World.setCell, Array.getElem?_modify, hb]
  refine ⟨rfl, ?_, hF.alloc _, ?_⟩
  · unfold Raw; rw [Below.heap_alloc _ _ _ (by omega)]; exact h3
  · rw [← hs]; exact heap_alloc_new _ _
theorem bmap_new {w : World} {b N : Nat} (f : Nat → ByteArray) (h : w.heap[b]? = some (.map #[] 0)) : BMap w b N (fun _ => false) f := by
  refine ⟨.map [], own_bound (n := 0) ⟨#[], 0, h, ⟨by simp, ?_, by simp⟩, Nat.le_refl _, rfl⟩ (by simp [size]), BD.made N f⟩
  exact MapKept.stamped_empty 0
/-- Behind settle: a disk with nothing not synced. -/
theorem Dk.settled {w' : World} {d nb sb cb : Nat} {cv : Value} {S S' : DS} (hbk : Raw w' d S.N S'.up S.cnt 0 (.map (some nb)) (.map (some sb)) (.slice none 0 0) cv) (hnow : NMap w' nb S.N S'.base) (hsy : w'.heap[sb]? = some (.map #[] 0))
    (hN : S'.N = S.N) (hC : S'.cnt = S.cnt) (hs : S'.since = []) (hcome : ComeAt w' d cb cv S') (hok : S'.ok) (hne : nb ≠ sb) : Dk w' d nb sb cb (.slice none 0 0) cv S' := by
  unfold Raw at hbk
  refine ⟨by rw [hbk, hN, hC, hs]; rfl, ?_, ?_, ?_, hcome, hok, hne⟩
  · unfold DS.now; rw [hs, cur_nil, hN]; exact hnow
  · rw [hs]; exact bmap_new _ hsy
  · rw [hs]; exact World.ownsRow_nil _ _ _ _
theorem settle_any {d : Nat} {S : DS} {Z : List Nat} {w : World} (h : DkS w d S Z) :
    Calls Try.prog 40 #[ptr d] w fun e w' => e = .returned (.tuple #[]) ∧ ∃ Z', DkS w' d S.settle Z' ∧ Mv w w' Z Z' := by
  obtain ⟨nb, sb, cb, fv, cv, rfl, h1⟩ := h
  refine (settle_raw (w := w) (d := d) (by unfold Raw; exact h1.blk)).mono ?_
  rintro e w' ⟨rfl, hr, hf, hn⟩
  obtain ⟨a1, a2, _, _, _⟩ := h1.apart
  have hk : ∀ x, x < w.heap.size → x ≠ d → w'.heap[x]? = w.heap[x]? := fun x hx hne => hf.block x hx (by simpa using hne)
  refine ⟨rfl, _, ⟨nb, w.heap.size, cb, .slice none 0 0, cv, rfl, Dk.settled (S := S) (S' := S.settle) hr (h1.now.keep (hk nb h1.now.lt (Ne.symm a1))) hn rfl rfl rfl ?_ h1.ok.settle (Nat.ne_of_lt h1.now.lt)⟩, ?_, ?_⟩
  · refine h1.come.keep rfl rfl (fun q1 q2 => ?_)
    obtain ⟨b1, _⟩ := h1.apartC q1 q2
    obtain ⟨_, _, _, _, _, hb⟩ := h1.come.cut q1 q2
    exact hk cb (lt_of_blk hb) b1
  · exact hf.mono (fun x _ hx => mem_dfoot.2 (Or.inl (by simpa using hx)))
  · intro x hx
    rcases mem_dfoot.1 hx with rfl | rfl | rfl | hx | ⟨rfl, q1, q2⟩
    · exact Or.inl (mem_dfoot.2 (Or.inl rfl))
    · exact Or.inl (mem_dfoot.2 (Or.inr (Or.inl rfl)))
    · exact Or.inr (Nat.le_refl _)
    · simp [Value.ownBlock] at hx
    · exact Or.inl (mem_dfoot.2 (Or.inr (Or.inr (Or.inr (Or.inr ⟨rfl, q1, q2⟩)))))

theorem start_any {d : Nat} {S : DS} {Z : List Nat} {w : World} (h : DkS w d S Z) :
    Calls Try.prog 27 #[ptr d] w fun e w' => e = .returned (.int .i64 S.start.2) ∧ ∃ Z', DkS w' d S.start.1 Z' ∧ Mv w w' Z Z' := by
  have K := missing_any h
  obtain ⟨nb, sb, cb, fv, cv, rfl, h1⟩ := h
  obtain ⟨_, c1, _, _, _, _, _, c7, fz⟩ := h1.cells
  have H := hide h1
  clear h1
  unfold DS.start
  cases hu : S.up
  · rw [hu] at c1
    simp only [if_true]
    unfold ptr at *
    go_enter Try.func27, Try.ntmps27
    go_wp2_with fail
    refine K.mono ?_
    rintro e w ⟨rfl, rfl⟩
    go_wp2_with fail
    go_ret
    have h1 := unhide H
    obtain ⟨a1, a2, a3, a4, a5⟩ := h1.apart
    have hf : Fr [d] w ((w.setCell ⟨d, 1, none⟩ (.bool true)).setCell ⟨d, 7, none⟩ (comeF d)) := ((Fr.refl [d] w).setCell (Or.inr (by simp)) _).setCell (Or.inr (by simp)) _
    have hk : ∀ x, x ≠ d → ((w.setCell ⟨d, 1, none⟩ (.bool true)).setCell ⟨d, 7, none⟩ (comeF d)).heap[x]? = w.heap[x]? := fun x hne => by
      rw [Below.heap_setCell _ _ _ _ (by simpa using hne), Below.heap_setCell _ _ _ _ (by simpa using hne)]
    have hb := h1.blk
    refine ⟨rfl, _, ⟨nb, sb, cb, fv, comeF d, rfl, ?_, h1.now.keep (hk nb (Ne.symm a1)), h1.syn.keep (hk sb (Ne.symm a2)), own_keep h1.row (fun k hk' => hk k (fun c => a3 (by rw [← c]; exact hk'))), ⟨⟨_, _, _, rfl⟩, fun _ => rfl⟩, ⟨h1.ok.n1, h1.ok.n2, h1.ok.sz, h1.ok.ats⟩, h1.ne⟩, hf.mono (fun x _ hx => mem_dfoot.2 (Or.inl (by simpa using hx))), ?_⟩
    · simp [World.setCell, Array.getElem?_modify, hb]; rfl
    · intro x hx
      rcases mem_dfoot.1 hx with rfl | rfl | rfl | hx | ⟨_, _, q⟩
      · exact Or.inl (mem_dfoot.2 (Or.inl rfl))
      · exact Or.inl (mem_dfoot.2 (Or.inr (Or.inl rfl)))
      · exact Or.inl (mem_dfoot.2 (Or.inr (Or.inr (Or.inl rfl))))
      · exact Or.inl (mem_dfoot.2 (Or.inr (Or.inr (Or.inr (Or.inl hx)))))
      · exact absurd rfl q
  · rw [hu] at c1
    simp only [Bool.true_eq_false, if_false]
    unfold ptr at *
    go_enter Try.func27, Try.ntmps27
    go_wp2_with fail
    refine K.mono ?_
    rintro e w ⟨rfl, rfl⟩
    go_wp2_with fail
    go_ret
    exact ⟨rfl, _, ⟨nb, sb, cb, fv, cv, rfl, unhide H⟩, Mv.refl _ _⟩
theorem cut_any {d : Nat} {S : DS} {Z : List Nat} {w : World} (h : DkS w d S Z) (n bits : Int) (hn : n ≤ 9223372036854775807) :
    Calls Try.prog 24 #[ptr d, .int .i64 n, .int .i64 bits] w fun e w' => e = .returned (.int .i64 (S.doCut n bits).2) ∧ ∃ Z', DkS w' d (S.doCut n bits).1 Z' ∧ Mv w w' Z Z' := by
  have K := ready_any h
  obtain ⟨nb, sb, cb, fv, cv, rfl, h1⟩ := h
  obtain ⟨_, _, _, _, _, _, _, c7, fz⟩ := h1.cells
  have H := hide (And.intro h1 hn)
  clear h1 hn
  unfold DS.doCut
  cases hu : S.up
  · simp only [if_true]
    rw [hu] at K
    unfold rdy at K
    simp only [if_true] at K
    unfold ptr at *
    go_enter Try.func24, Try.ntmps24
    go_wp2_with fail
    refine K.mono ?_
    rintro e w ⟨rfl, rfl⟩
    go_wp2_with fail
    go_ret
    exact ⟨rfl, _, ⟨nb, sb, cb, fv, cv, rfl, (unhide H).1⟩, Mv.refl _ _⟩
  · simp only [Bool.true_eq_false, if_false]
    rw [hu] at K
    unfold rdy at K
    simp only [Bool.true_eq_false, if_false] at K
    unfold ptr at *
    by_cases h0 : n < 0
    · simp only [h0, if_true]
      go_enter Try.func24, Try.ntmps24
      go_wp2_with fail
      refine K.mono ?_
      rintro e w ⟨rfl, rfl⟩
      go_wp2_with fail
      go_ret
      exact ⟨rfl, _, ⟨nb, sb, cb, fv, cv, rfl, (unhide H).1⟩, Mv.refl _ _⟩
    · simp only [h0, if_false]
      have d7 : ∀ o : Obj, (w.alloc o).cell? ⟨d, 7, none⟩ = some cv := fun o => by rw [World.cell?_alloc_lt _ _ _ (World.block_lt_of_cell? w _ c7)]; exact c7
      have d7z : ∀ o : Obj, (w.alloc o).frozen? ⟨d, 7, none⟩ = false := fun o => by rw [World.frozen?_alloc_past _ _ _ (World.block_lt_of_cell? w _ c7)]; exact fz 7
      go_enter Try.func24, Try.ntmps24
      go_wp2_with fail
      refine K.mono ?_
      rintro e w ⟨rfl, rfl⟩
      go_wp2_with fail
      go_ret
      obtain ⟨h1, hn⟩ := unhide H
      obtain ⟨a1, a2, a3, a4, a5⟩ := h1.apart
      have hb := h1.blk
      have hlt := lt_of_blk hb
      have hf := ((Fr.refl [d] w).alloc (.cells #[.pointer (some ⟨d, 0, none⟩), .int .i64 n, .int .i64 bits] 96)).setCell (a := ⟨d, 7, none⟩) (Or.inr (by simp)) (cutF w.heap.size)
      have hk : ∀ x, x < w.heap.size → x ≠ d → _ := fun x hx hne => hf.block x hx (by simpa using hne)
      refine ⟨rfl, _, ⟨nb, sb, w.heap.size, fv, cutF w.heap.size, rfl, ?_, h1.now.keep (hk nb h1.now.lt (Ne.symm a1)), h1.syn.keep (hk sb h1.syn.lt (Ne.symm a2)), own_keep h1.row (fun k hk' => hk k (World.ownsRow.lt h1.row k hk').2 (fun c => a3 (by rw [← c]; exact hk'))), ⟨⟨_, _, _, rfl⟩, fun _ => ⟨rfl, by omega, ?_⟩⟩, ⟨h1.ok.n1, h1.ok.n2, h1.ok.sz, h1.ok.ats⟩, h1.ne⟩, hf.mono (fun x _ hx => mem_dfoot.2 (Or.inl (by simpa using hx))), ?_⟩
      · have : (w.alloc (.cells #[.pointer (some ⟨d, 0, none⟩), .int .i64 n, .int .i64 bits] 96)).heap[d]? = _ := (Below.heap_alloc _ _ _ hlt).trans hb
        simp [World.setCell, Array.getElem?_modify, this]
        exact ⟨hu, rfl⟩
      · have e : ((n.toNat : Nat) : Int) = n := by omega
        rw [e, Below.heap_setCell _ _ _ _ (by simp; omega)]
        exact heap_alloc_new _ _
      · intro x hx
        rcases mem_dfoot.1 hx with rfl | rfl | rfl | hx | ⟨rfl, _, q⟩
        · exact Or.inl (mem_dfoot.2 (Or.inl rfl))
        · exact Or.inl (mem_dfoot.2 (Or.inr (Or.inl rfl)))
        · exact Or.inl (mem_dfoot.2 (Or.inr (Or.inr (Or.inl rfl))))
        · exact Or.inl (mem_dfoot.2 (Or.inr (Or.inr (Or.inr (Or.inl hx)))))
        · exact Or.inr (Nat.le_refl _)

end Go.Proofs.Ytimhjheigejjmab
