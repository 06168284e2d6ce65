/- Contract of put of package disk. -/
import Derived.Test.YtfnpeiikjiffeaaGreatDkD0
namespace Go.Proofs.YtfnpeiikjiffeaaGreat
open Go.RowKit Go.Maps

set_option maxRecDepth 100000 in
set_option maxHeartbeats 4000000 in
theorem put_a {d nb sb cb : Nat} {fv cv : Value} {S : DS} {w : World} (h : Dk w d nb sb cb fv cv S) {k : Nat} {s : ByteArray} (hk : k < S.N) (hs : s.size = 64) (hq : S.since.length < 4611686018427387904) (hyes : (S.since.any fun p => p.1 == k) = false) (hlen : S.since.length < 31) :
    Calls Tryz.prog 135 #[ptr d, .agg (wrC (k, s)).toArray] w fun e w' => e = .returned (.tuple #[]) ∧ ∃ Z', DkS w' d (S.put k s) Z' ∧ Mv w w' (dfoot d nb sb cb fv S) Z' := by
  have hN := h.ok.n2
  obtain ⟨a1, a2, a3, a4, a5⟩ := h.apart
  have hlt := lt_of_blk h.blk
  have hrl : (S.since.take 31).length = S.since.length := by simp; omega
  have hrow0 := h.row
  unfold FRow at hrow0
  rw [hrl] at hrow0
  obtain ⟨fa, fc, hfv⟩ := own_slice hrow0
  subst hfv
  obtain ⟨t, htd⟩ : ∃ t, t = (if (S.since.any fun p => p.1 == k) then S.base k else nought) := ⟨_, rfl⟩
  have ht : t.size = 64 := by rw [htd]; split <;> first | exact h.ok.sz k | exact nought_size
  have hnk := h.ok.now k
  -- the world behind the box
  have D1 := alloc_keep h.blk (Obj.cells (wrC (k, s)).toArray 125)
  have P1 := heap_alloc_new w (Obj.cells (wrC (k, s)).toArray 125)
  have F1 : Fr [] w (w.alloc (Obj.cells (wrC (k, s)).toArray 125)) := (Fr.refl _ _).alloc _
  obtain ⟨b1, hb1⟩ : ∃ b1, b1 = w.heap.size := ⟨_, rfl⟩
  have L1 : ∀ W : World, Fr [] w W → (Instr.lookup 73 (.map (some sb)) (.int .i64 (k : Int)) true).run Tryz.prog W = .ok (.tuple #[blkV t, .bool false]) W := by
    intro W hW
    have := (h.syn.keep (hW.block sb h.syn.lt (by simp))).lookOk hN hk
    rw [← htd, hyes] at this
    exact this
  unfold ptr
  go_enter Tryz.func135, Tryz.ntmps135
  go_upto_region 1 with fail
  rw [← hb1] at P1 ⊢
  generalize hW1 : w.alloc (Obj.cells (wrC (k, s)).toArray 125) = W1 at *
  clear hW1
  have H := hide h
  have HD1 := hide D1
  have HP1 := hide P1
  have HF1 := hide F1
  have HM := hide (And.intro hk (And.intro hs (And.intro hq (And.intro hN (And.intro hyes (And.intro hlen (And.intro hrl (And.intro hnk (And.intro htd (And.intro hb1 (And.intro hlt hrow0)))))))))))
  have HA := hide (And.intro a1 (And.intro a2 (And.intro a3 (And.intro a4 a5))))
  have p0 := dcell P1 0 (v := .int .i64 (k : Int)) rfl
  have p0a : ∀ o, (W1.alloc o).cell? ⟨b1, 0, none⟩ = some (.int .i64 (k : Int)) := fun o => dcell (alloc_keep (unhide HP1) o) 0 rfl
  have c5 := dcell D1 5 rfl
  have c5a : ∀ o, (W1.alloc o).cell? ⟨d, 5, none⟩ = some (.map (some sb)) := fun o => dcell (alloc_keep (unhide HD1) o) 5 rfl
  have l1 := L1 W1.drew (unhide HF1).drew
  have l2 := fun o => L1 (W1.alloc o).drew ((unhide HF1).alloc o).drew
  unfold blkV at l1 l2
  have hT := blk_sz ht
  have hst0 := run_storeCells_new (P := Tryz.prog) W1.drew 123 lit64 (blkC t).toArray (infoRow hT) (by rw [hT]; rfl) (blk_one t)
  generalize (blkC t).toArray = T at *
  have hst : (storeCells ⟨W1.heap.size, 0, none⟩ T.toList 0).run Tryz.prog (W1.alloc (.cells lit64 123)).drew = .ok () (W1.alloc (.cells T 123)).drew := hst0
  unfold lit64 at hst
  clear hst0 L1 h D1 P1 F1 hk hs hq hN hyes hlen hrl hnk htd hb1 hlt hrow0 a1 a2 a3 a4 a5 ht
  go_region
  have D2 := alloc_keep (unhide HD1) (Obj.cells T 123)
  have P2 := alloc_keep (unhide HP1) (Obj.cells T 123)
  have F2 := ((unhide HF1).alloc (Obj.cells T 123)).drew
  clear p0 p0a c5 c5a l1 l2 hT hst HD1 HP1 HF1
  have D2 : (W1.alloc (Obj.cells T 123)).drew.heap[d]? = _ := D2
  have P2 : (W1.alloc (Obj.cells T 123)).drew.heap[b1]? = _ := P2
  generalize (W1.alloc (Obj.cells T 123)).drew = W2 at *
  have N2 : NMap W2 nb S.N S.now := (unhide H).now.keep (F2.block nb (unhide H).now.lt (by simp))
  have S2 : BMap W2 sb S.N (fun j => S.since.any fun p => p.1 == j) S.base := (unhide H).syn.keep (F2.block sb (unhide H).syn.lt (by simp))
  obtain ⟨W3, r3, S3, g3⟩ := BMap.store (w := W2.drew) (S2.keep rfl) (unhide HM).2.2.2.1 (unhide HM).1 (unhide HM).2.2.2.2.2.2.2.1
  have l3 := NMap.look (w := W2.drew) (N2.keep rfl) (unhide HM).2.2.2.1 (unhide HM).1
  have c4 := dcell D2 4 rfl
  have c5 := dcell D2 5 rfl
  have p0 := dcell P2 0 (v := .int .i64 (k : Int)) rfl
  have ne1 : d ≠ sb := (unhide HA).2.1
  have D3 := grown_keep (X := W2.drew) g3 D2 ne1
  have P3 := grown_keep (X := W2.drew) g3 P2 (by have := (unhide HM).2.2.2.2.2.2.2.2.2.1; have := (unhide H).syn.lt; omega)
  have N3 : NMap W3 nb S.N S.now := N2.keep (g3.block nb N2.lt (by have := (unhide H).ne; simpa using this))
  have S3' : BMap W3 sb S.N (setB (fun j => S.since.any fun p => p.1 == j) k) S.base := S3.congr (fun _ _ => rfl) (fun j _ _ => by
    by_cases c : j = k
    · subst c; rw [upd_same]; exact cur_other (unhide HM).2.2.2.2.1
    · rw [upd_other _ _ c])
  have F3 : Fr [sb] w W3 := (F2.drew.mono (fun _ _ c => by cases c)).tr (Fr.ofGrown g3)
  have HD3 := hide D3
  have HP3 := hide P3
  have HN3 := hide N3
  have HS3 := hide S3'
  have HF3 := hide F3
  clear D3 P3 N3 S3 S3' F3 N2 S2 g3 ne1 D2 P2 F2
  go_wp2_with fail
  go_region
  clear r3 l3 c4 c5 p0
  go_wp2_with fail
  obtain ⟨W4, r4, N4, g4⟩ := NMap.store (w := W3.drew) ((unhide HN3).keep rfl) (unhide HM).2.2.2.1 (unhide HM).1 (unhide HM).2.1
  have c4 := dcell (unhide HD3) 4 rfl
  have p0 := dcell (unhide HP3) 0 (v := .int .i64 (k : Int)) rfl
  have HR3 := hide (range_bytes (X := W3.drew) (unhide HP3))
  have HI3 : Hid ((Tryz.prog.info? 123).map (·.size) = some (blkC s).length) := by unfold Hid; rw [blkC_len, (unhide HM).2.1]; exact Tryz.infoBlock
  unfold blkV at r4
  have D4 := grown_keep (X := W3.drew) g4 (unhide HD3) (unhide HA).1
  have P4 := grown_keep (X := W3.drew) g4 (unhide HP3) (by have := (unhide HM).2.2.2.2.2.2.2.2.2.1; have := (unhide H).now.lt; omega)
  have HS4 : Hid (BMap W4 sb S.N (setB (fun j => S.since.any fun p => p.1 == j) k) S.base) := (unhide HS3).keep (g4.block sb (unhide HS3).lt (by have := (unhide H).ne; simpa using Ne.symm this))
  have HF4 : Hid (Fr [nb, sb] w W4) := ((unhide HF3).drew.mono (fun _ _ c => by simp at c; simp [c])).tr ((Fr.ofGrown g4).mono (fun _ _ c => by simp at c; simp [c]))
  have HN4 := hide N4
  have HD4 := hide D4
  have HP4 := hide P4
  clear N4 D4 P4 g4 HD3 HP3 HN3 HS3 HF3
  have HS4a : Hid ((fun w' : World => w'.cell? ⟨d, 4, none⟩ = some (.map (some nb)) ∧ w'.cell? ⟨b1, 0, none⟩ = some (.int .i64 (k : Int)) ∧ w'.rangeAt b1 1 (blkC s)) W3.drew) := ⟨c4, p0, unhide HR3⟩
  have HS4b : Hid ((fun w' : World => w'.cell? ⟨d, 4, none⟩ = some (.map (some nb)) ∧ w'.cell? ⟨b1, 0, none⟩ = some (.int .i64 (k : Int)) ∧ w'.rangeAt b1 1 (blkC s)) W4) := ⟨dcell (unhide HD4) 4 rfl, dcell (unhide HP4) 0 rfl, range_bytes (unhide HP4)⟩
  have hu63 := Tryz.underlying123
  have hi63 := unhide HI3
  go_region_held3 (fun w' : World => w'.cell? ⟨d, 4, none⟩ = some (.map (some nb)) ∧ w'.cell? ⟨b1, 0, none⟩ = some (.int .i64 (k : Int)) ∧ w'.rangeAt b1 1 (blkC s)) (first | exact unhide HS4a | exact unhide HS4b) (fail)
  clear r4 c4 p0 hu63 hi63
  have c3 := dcell (unhide HD4) 3 rfl
  have z3 := dfroz (unhide HD4) 3
  have c6 := dcell (unhide HD4) 6 rfl
  have e31 : (((S.since.length : Nat) : Int) + 1) = ((S.since.length + 1 : Nat) : Int) := by omega
  have w31 : IntKind.i64.wrap (((S.since.length : Nat) : Int) + 1) = (((S.since.length : Nat) : Int) + 1) := wrap_i64 (by omega) (by have := (unhide HM).2.2.1; omega)
  have HE := hide e31
  clear e31
  have D5 := dset (unhide HD4) 3 (.int .i64 (((S.since.length : Nat) : Int) + 1))
  have P5 : (W4.setCell ⟨d, 3, none⟩ (.int .i64 (((S.since.length : Nat) : Int) + 1))).heap[b1]? = _ := (Below.heap_setCell _ _ _ _ (by have := (unhide HM).2.2.2.2.2.2.2.2.2.1; have := (unhide HM).2.2.2.2.2.2.2.2.2.2.1; show b1 ≠ d; omega)).trans (unhide HP4)
  have HD5 := hide D5
  have HP5 := hide P5
  clear D5 P5
  have hl31 : ((S.since.length : Nat) : Int) < 31 := by have := (unhide HM).2.2.2.2.2.1; omega
  go_upto_region 7 with fail
  generalize hW5 : W4.setCell ⟨d, 3, none⟩ (.int .i64 (((S.since.length : Nat) : Int) + 1)) = W5 at *
  have FX : Fr [d, nb, sb] w W5 := by rw [← hW5]; exact ((unhide HF4).mono (fun _ _ c => by simp at c; simp [c])).setCell (Or.inr (by simp)) _
  have kk : ∀ x, x ≠ d → W5.heap[x]? = W4.heap[x]? := fun x hx => by rw [← hW5]; exact Below.heap_setCell _ _ _ _ hx
  clear hW5 c3 z3 c6 hl31 w31
  have h := unhide H
  obtain ⟨a1, a2, a3, a4, a5⟩ := unhide HA
  have N5 := (unhide HN4).keep (kk nb (Ne.symm a1))
  have S5 := (unhide HS4).keep (kk sb (Ne.symm a2))
  have R5r : W5.ownsRow 0 125 65 (.slice fa S.since.length fc) S.since.length ((S.since.take 31).flatMap wrC) := own_keep (unhide HM).2.2.2.2.2.2.2.2.2.2.2 (fun x hx => FX.block x (World.ownsRow.lt (unhide HM).2.2.2.2.2.2.2.2.2.2.2 x hx).2 (by
    simp only [List.mem_cons, List.not_mem_nil, or_false, not_or]
    exact ⟨fun c => a3 (by rw [← c]; exact hx), fun c => a4 (by rw [← c]; exact hx), fun c => a5 (by rw [← c]; exact hx)⟩))
  have HX := hide (And.intro FX (And.intro N5 (And.intro S5 R5r)))
  obtain ⟨i0, z0, hi, hz0, hz1, hz2, hz3⟩ := infoW
  have HI := hide (And.intro hi (And.intro hz0 (And.intro hz1 (And.intro hz2 hz3))))
  clear hi hz0 hz1 hz2 hz3
  have q6 := dcell (unhide HD5) 6 rfl
  have q6a : ∀ o, (W5.alloc o).cell? ⟨d, 6, none⟩ = some (.slice fa S.since.length fc) := fun o => dcell (alloc_keep (unhide HD5) o) 6 rfl
  have HR5 := hide (range_all (X := W5.drew) (unhide HP5))
  have HI5 : Hid ((Tryz.prog.info? 125).map (·.size) = some (wrC (k, s)).length) := by unfold Hid; rw [wrC_len (unhide HM).2.1]; exact Tryz.infoWrite
  have HO := hide (wrC_one (k, s))
  have HL := hide (wrC_len (p := (k, s)) (unhide HM).2.1)
  clear h a1 a2 a3 a4 a5 N5 S5 R5r FX kk
  refine wp_region_any (by kernel_rfl) ?_
  change wpAny _ _ _ _ _ _ _ (World.drew _)
  refine wpAny_take (i := 0) (v := .pointer (some ⟨d, 0, none⟩)) rfl (by kernel_rfl) (by kernel_rfl) (by kernel_rfl) (fun _ _ _ h => h) (Or.inl ⟨by rfl, fun w => by go_simp⟩) ?_
  go_frame
  refine wpAny_take (i := 1) (v := .pointer (some ⟨d, 0, none⟩)) rfl (by kernel_rfl) (by kernel_rfl) (by kernel_rfl) (fun _ _ _ h => h) (Or.inl ⟨by rfl, fun w => by go_simp⟩) ?_
  go_frame
  refine wpAny_take (i := 2) (v := .pointer (some ⟨d, 0, none⟩)) rfl (by kernel_rfl) (by kernel_rfl) (by kernel_rfl) (fun _ _ _ h => h) (Or.inl ⟨by rfl, fun w => by go_simp⟩) ?_
  go_frame
  refine wpAny_take (i := 3) (v := .pointer (some ⟨d, 6, none⟩)) rfl (by kernel_rfl) (by kernel_rfl) (by kernel_rfl) (fun _ _ _ h => h) (Or.inl ⟨by rfl, fun w => by go_simp⟩) ?_
  go_frame
  refine wpAny_ready (rs := [4, 5]) (by kernel_rfl) (by simp) (AllReady.cons (o := ⟨some 56, .load 74 (.tmp 55), 74, "disk.go:110", #[⟨3, .data⟩], none⟩) rfl (fun K hK => ?_) (AllReady.cons (o := ⟨some 57, .load 125 (.tmp 3), 125, "disk.go:110", #[], none⟩) rfl (fun K hK => ?_) AllReady.nil))
  · go_simp
    refine hK _ _ ?_
    clear hK K
    try go_frame
    refine wpAny_ready (rs := [5]) (by kernel_rfl) (by simp) (AllReady.cons (o := ⟨some 57, .load 125 (.tmp 3), 125, "disk.go:110", #[], none⟩) rfl (fun K hK => ?_) AllReady.nil)
    refine step_load_mid rfl 125 (.tmp 3) rfl b1 0 (by simp [Act.eval]) (wrC (k, s)) _ (unhide HR5) Tryz.underlying125 rfl (unhide HI5) ?_
    refine hK _ _ ?_
    clear hK K
    try go_frame
    refine wpAny_ready (rs := [6]) (by kernel_rfl) (by simp) (AllReady.cons (o := ⟨some 58, .buildSlice 74 1 #[(0, .tmp 57)], 74, "disk.go:110", #[⟨5, .data⟩], none⟩) rfl (fun K hK => ?_) AllReady.nil)
    refine step_buildSlice rfl 74 (.tmp 57) rfl (wrC (k, s)) (by simp [Act.eval]) 125 Tryz.underlying74 i0 z0 (unhide HI).1 (unhide HI).2.1 (by rw [unhide HL]; exact (unhide HI).2.2.1) (by rw [unhide HL]; exact (unhide HI).2.2.2.2) (by rw [unhide HL]; decide) (by rw [unhide HL]; decide) ?_
    refine hK _ _ ?_
    clear hK K
    try go_frame
    refine wpAny_ready (rs := [7]) (by kernel_rfl) (by simp) (AllReady.cons (o := ⟨some 59, .call { callee := .builtin .append, args := #[.tmp 56, .tmp 58], argTypes := #[74, 74] }, 74, "disk.go:110", #[⟨4, .data⟩, ⟨6, .data⟩], none⟩) rfl (fun K hK => ?_) AllReady.nil)
    refine step_append_own rfl (.tmp 56) (.tmp 58) 74 rfl 0 125 i0 z0 65 72 Tryz.underlying74 (unhide HI).1 (unhide HI).2.1 (unhide HI).2.2.1 (unhide HI).2.2.2.1 (unhide HI).2.2.2.2 (by decide) (.slice fa S.since.length fc) S.since.length ((S.since.take 31).flatMap wrC) (by simp [Act.eval]) ((unhide HX).2.2.2.drew.alloc _) ⟨W5.heap.size, 0, none⟩ 1 1 (wrC (k, s)) (by simp [Act.eval]) (unhide HL) (row_new W5.drew (wrC (k, s)) 125) (unhide HO) (room31 (unhide HM).2.2.2.2.2.1).1 (room31 (unhide HM).2.2.2.2.2.1).2 (Nat.zero_le _) ?_
    intro v' w6 hown' hgrow hat
    obtain ⟨k1, k2, k3, ⟨g', cp, rfl⟩⟩ := put_end (unhide H) (unhide HA) (unhide HM).1 (unhide HM).2.1 (unhide HM).2.2.2.2.2.1 (unhide HX).1 (unhide HX).2.1 (unhide HX).2.2.1 (unhide HE) (unhide HD5) hown' hgrow hat
    refine hK _ _ ?_
    clear hK K
    try go_frame
    refine wpAny_take (i := 8) (v := .pointer (some ⟨d, 0, none⟩)) rfl (by kernel_rfl) (by kernel_rfl) (by kernel_rfl) (fun _ _ _ h => h) (Or.inl ⟨by rfl, fun w => by go_simp⟩) ?_
    try go_frame
    refine wpAny_take (i := 9) (v := .pointer (some ⟨d, 6, none⟩)) rfl (by kernel_rfl) (by kernel_rfl) (by kernel_rfl) (fun _ _ _ h => h) (Or.inl ⟨by rfl, fun w => by go_simp⟩) ?_
    try go_frame
    refine wpAny_ready (rs := [10]) (by kernel_rfl) (by simp) (AllReady.cons (o := ⟨none, .store 74 (.tmp 61) (.tmp 59), 0, "disk.go:110", #[⟨9, .data⟩, ⟨7, .data⟩, ⟨7, .chain⟩, ⟨0, .phase⟩, ⟨1, .phase⟩, ⟨2, .phase⟩, ⟨3, .phase⟩, ⟨4, .phase⟩, ⟨5, .phase⟩, ⟨6, .phase⟩, ⟨7, .phase⟩], none⟩) rfl (fun K hK => ?_) AllReady.nil)
    go_simp
    refine hK _ _ ?_
    clear hK K
    refine wpAny_done (by kernel_rfl) ?_ _
    go_wp2_with fail
    go_end0
    exact ⟨rfl, k3⟩
  · refine step_load_mid rfl 125 (.tmp 3) rfl b1 0 (by simp [Act.eval]) (wrC (k, s)) _ (unhide HR5) Tryz.underlying125 rfl (unhide HI5) ?_
    refine hK _ _ ?_
    clear hK K
    try go_frame
    refine wpAny_ready (rs := [4, 6]) (by kernel_rfl) (by simp) (AllReady.cons (o := ⟨some 56, .load 74 (.tmp 55), 74, "disk.go:110", #[⟨3, .data⟩], none⟩) rfl (fun K hK => ?_) (AllReady.cons (o := ⟨some 58, .buildSlice 74 1 #[(0, .tmp 57)], 74, "disk.go:110", #[⟨5, .data⟩], none⟩) rfl (fun K hK => ?_) AllReady.nil))
    · go_simp
      refine hK _ _ ?_
      clear hK K
      try go_frame
      refine wpAny_ready (rs := [6]) (by kernel_rfl) (by simp) (AllReady.cons (o := ⟨some 58, .buildSlice 74 1 #[(0, .tmp 57)], 74, "disk.go:110", #[⟨5, .data⟩], none⟩) rfl (fun K hK => ?_) AllReady.nil)
      refine step_buildSlice rfl 74 (.tmp 57) rfl (wrC (k, s)) (by simp [Act.eval]) 125 Tryz.underlying74 i0 z0 (unhide HI).1 (unhide HI).2.1 (by rw [unhide HL]; exact (unhide HI).2.2.1) (by rw [unhide HL]; exact (unhide HI).2.2.2.2) (by rw [unhide HL]; decide) (by rw [unhide HL]; decide) ?_
      refine hK _ _ ?_
      clear hK K
      try go_frame
      refine wpAny_ready (rs := [7]) (by kernel_rfl) (by simp) (AllReady.cons (o := ⟨some 59, .call { callee := .builtin .append, args := #[.tmp 56, .tmp 58], argTypes := #[74, 74] }, 74, "disk.go:110", #[⟨4, .data⟩, ⟨6, .data⟩], none⟩) rfl (fun K hK => ?_) AllReady.nil)
      refine step_append_own rfl (.tmp 56) (.tmp 58) 74 rfl 0 125 i0 z0 65 72 Tryz.underlying74 (unhide HI).1 (unhide HI).2.1 (unhide HI).2.2.1 (unhide HI).2.2.2.1 (unhide HI).2.2.2.2 (by decide) (.slice fa S.since.length fc) S.since.length ((S.since.take 31).flatMap wrC) (by simp [Act.eval]) ((unhide HX).2.2.2.drew.alloc _) ⟨W5.heap.size, 0, none⟩ 1 1 (wrC (k, s)) (by simp [Act.eval]) (unhide HL) (row_new W5.drew (wrC (k, s)) 125) (unhide HO) (room31 (unhide HM).2.2.2.2.2.1).1 (room31 (unhide HM).2.2.2.2.2.1).2 (Nat.zero_le _) ?_
      intro v' w6 hown' hgrow hat
      obtain ⟨k1, k2, k3, ⟨g', cp, rfl⟩⟩ := put_end (unhide H) (unhide HA) (unhide HM).1 (unhide HM).2.1 (unhide HM).2.2.2.2.2.1 (unhide HX).1 (unhide HX).2.1 (unhide HX).2.2.1 (unhide HE) (unhide HD5) hown' hgrow hat
      refine hK _ _ ?_
      clear hK K
      try go_frame
      refine wpAny_take (i := 8) (v := .pointer (some ⟨d, 0, none⟩)) rfl (by kernel_rfl) (by kernel_rfl) (by kernel_rfl) (fun _ _ _ h => h) (Or.inl ⟨by rfl, fun w => by go_simp⟩) ?_
      try go_frame
      refine wpAny_take (i := 9) (v := .pointer (some ⟨d, 6, none⟩)) rfl (by kernel_rfl) (by kernel_rfl) (by kernel_rfl) (fun _ _ _ h => h) (Or.inl ⟨by rfl, fun w => by go_simp⟩) ?_
      try go_frame
      refine wpAny_ready (rs := [10]) (by kernel_rfl) (by simp) (AllReady.cons (o := ⟨none, .store 74 (.tmp 61) (.tmp 59), 0, "disk.go:110", #[⟨9, .data⟩, ⟨7, .data⟩, ⟨7, .chain⟩, ⟨0, .phase⟩, ⟨1, .phase⟩, ⟨2, .phase⟩, ⟨3, .phase⟩, ⟨4, .phase⟩, ⟨5, .phase⟩, ⟨6, .phase⟩, ⟨7, .phase⟩], none⟩) rfl (fun K hK => ?_) AllReady.nil)
      go_simp
      refine hK _ _ ?_
      clear hK K
      refine wpAny_done (by kernel_rfl) ?_ _
      go_wp2_with fail
      go_end0
      exact ⟨rfl, k3⟩
    · refine step_buildSlice rfl 74 (.tmp 57) rfl (wrC (k, s)) (by simp [Act.eval]) 125 Tryz.underlying74 i0 z0 (unhide HI).1 (unhide HI).2.1 (by rw [unhide HL]; exact (unhide HI).2.2.1) (by rw [unhide HL]; exact (unhide HI).2.2.2.2) (by rw [unhide HL]; decide) (by rw [unhide HL]; decide) ?_
      refine hK _ _ ?_
      clear hK K
      try go_frame
      refine wpAny_ready (rs := [4]) (by kernel_rfl) (by simp) (AllReady.cons (o := ⟨some 56, .load 74 (.tmp 55), 74, "disk.go:110", #[⟨3, .data⟩], none⟩) rfl (fun K hK => ?_) AllReady.nil)
      go_simp
      refine hK _ _ ?_
      clear hK K
      try go_frame
      refine wpAny_ready (rs := [7]) (by kernel_rfl) (by simp) (AllReady.cons (o := ⟨some 59, .call { callee := .builtin .append, args := #[.tmp 56, .tmp 58], argTypes := #[74, 74] }, 74, "disk.go:110", #[⟨4, .data⟩, ⟨6, .data⟩], none⟩) rfl (fun K hK => ?_) AllReady.nil)
      refine step_append_own rfl (.tmp 56) (.tmp 58) 74 rfl 0 125 i0 z0 65 72 Tryz.underlying74 (unhide HI).1 (unhide HI).2.1 (unhide HI).2.2.1 (unhide HI).2.2.2.1 (unhide HI).2.2.2.2 (by decide) (.slice fa S.since.length fc) S.since.length ((S.since.take 31).flatMap wrC) (by simp [Act.eval]) ((unhide HX).2.2.2.drew.alloc _) ⟨W5.heap.size, 0, none⟩ 1 1 (wrC (k, s)) (by simp [Act.eval]) (unhide HL) (row_new W5.drew (wrC (k, s)) 125) (unhide HO) (room31 (unhide HM).2.2.2.2.2.1).1 (room31 (unhide HM).2.2.2.2.2.1).2 (Nat.zero_le _) ?_
      intro v' w6 hown' hgrow hat
      obtain ⟨k1, k2, k3, ⟨g', cp, rfl⟩⟩ := put_end (unhide H) (unhide HA) (unhide HM).1 (unhide HM).2.1 (unhide HM).2.2.2.2.2.1 (unhide HX).1 (unhide HX).2.1 (unhide HX).2.2.1 (unhide HE) (unhide HD5) hown' hgrow hat
      refine hK _ _ ?_
      clear hK K
      try go_frame
      refine wpAny_take (i := 8) (v := .pointer (some ⟨d, 0, none⟩)) rfl (by kernel_rfl) (by kernel_rfl) (by kernel_rfl) (fun _ _ _ h => h) (Or.inl ⟨by rfl, fun w => by go_simp⟩) ?_
      try go_frame
      refine wpAny_take (i := 9) (v := .pointer (some ⟨d, 6, none⟩)) rfl (by kernel_rfl) (by kernel_rfl) (by kernel_rfl) (fun _ _ _ h => h) (Or.inl ⟨by rfl, fun w => by go_simp⟩) ?_
      try go_frame
      refine wpAny_ready (rs := [10]) (by kernel_rfl) (by simp) (AllReady.cons (o := ⟨none, .store 74 (.tmp 61) (.tmp 59), 0, "disk.go:110", #[⟨9, .data⟩, ⟨7, .data⟩, ⟨7, .chain⟩, ⟨0, .phase⟩, ⟨1, .phase⟩, ⟨2, .phase⟩, ⟨3, .phase⟩, ⟨4, .phase⟩, ⟨5, .phase⟩, ⟨6, .phase⟩, ⟨7, .phase⟩], none⟩) rfl (fun K hK => ?_) AllReady.nil)
      go_simp
      refine hK _ _ ?_
      clear hK K
      refine wpAny_done (by kernel_rfl) ?_ _
      go_wp2_with fail
      go_end0
      exact ⟨rfl, k3⟩
set_option maxRecDepth 100000 in
set_option maxHeartbeats 4000000 in
theorem put_b {d nb sb cb : Nat} {fv cv : Value} {S : DS} {w : World} (h : Dk w d nb sb cb fv cv S) {k : Nat} {s : ByteArray} (hk : k < S.N) (hs : s.size = 64) (hq : S.since.length < 4611686018427387904) (hyes : (S.since.any fun p => p.1 == k) = true) (hlen : S.since.length < 31) :
    Calls Tryz.prog 135 #[ptr d, .agg (wrC (k, s)).toArray] w fun e w' => e = .returned (.tuple #[]) ∧ ∃ Z', DkS w' d (S.put k s) Z' ∧ Mv w w' (dfoot d nb sb cb fv S) Z' := by
  have hN := h.ok.n2
  obtain ⟨a1, a2, a3, a4, a5⟩ := h.apart
  have hlt := lt_of_blk h.blk
  have hrl : (S.since.take 31).length = S.since.length := by simp; omega
  have hrow0 := h.row
  unfold FRow at hrow0
  rw [hrl] at hrow0
  obtain ⟨fa, fc, hfv⟩ := own_slice hrow0
  subst hfv
  obtain ⟨t, htd⟩ : ∃ t, t = (if (S.since.any fun p => p.1 == k) then S.base k else nought) := ⟨_, rfl⟩
  have ht : t.size = 64 := by rw [htd]; split <;> first | exact h.ok.sz k | exact nought_size
  have hnk := h.ok.now k
  -- the world behind the box
  have D1 := alloc_keep h.blk (Obj.cells (wrC (k, s)).toArray 125)
  have P1 := heap_alloc_new w (Obj.cells (wrC (k, s)).toArray 125)
  have F1 : Fr [] w (w.alloc (Obj.cells (wrC (k, s)).toArray 125)) := (Fr.refl _ _).alloc _
  obtain ⟨b1, hb1⟩ : ∃ b1, b1 = w.heap.size := ⟨_, rfl⟩
  have L1 : ∀ W : World, Fr [] w W → (Instr.lookup 73 (.map (some sb)) (.int .i64 (k : Int)) true).run Tryz.prog W = .ok (.tuple #[blkV t, .bool true]) W := by
    intro W hW
    have := (h.syn.keep (hW.block sb h.syn.lt (by simp))).lookOk hN hk
    rw [← htd, hyes] at this
    exact this
  unfold ptr
  go_enter Tryz.func135, Tryz.ntmps135
  go_upto_region 1 with fail
  rw [← hb1] at P1 ⊢
  generalize hW1 : w.alloc (Obj.cells (wrC (k, s)).toArray 125) = W1 at *
  clear hW1
  have H := hide h
  have HD1 := hide D1
  have HP1 := hide P1
  have HF1 := hide F1
  have HM := hide (And.intro hk (And.intro hs (And.intro hq (And.intro hN (And.intro hyes (And.intro hlen (And.intro hrl (And.intro hnk (And.intro htd (And.intro hb1 (And.intro hlt hrow0)))))))))))
  have HA := hide (And.intro a1 (And.intro a2 (And.intro a3 (And.intro a4 a5))))
  have p0 := dcell P1 0 (v := .int .i64 (k : Int)) rfl
  have p0a : ∀ o, (W1.alloc o).cell? ⟨b1, 0, none⟩ = some (.int .i64 (k : Int)) := fun o => dcell (alloc_keep (unhide HP1) o) 0 rfl
  have c5 := dcell D1 5 rfl
  have c5a : ∀ o, (W1.alloc o).cell? ⟨d, 5, none⟩ = some (.map (some sb)) := fun o => dcell (alloc_keep (unhide HD1) o) 5 rfl
  have l1 := L1 W1.drew (unhide HF1).drew
  have l2 := fun o => L1 (W1.alloc o).drew ((unhide HF1).alloc o).drew
  unfold blkV at l1 l2
  have hT := blk_sz ht
  have hst0 := run_storeCells_new (P := Tryz.prog) W1.drew 123 lit64 (blkC t).toArray (infoRow hT) (by rw [hT]; rfl) (blk_one t)
  generalize (blkC t).toArray = T at *
  have hst : (storeCells ⟨W1.heap.size, 0, none⟩ T.toList 0).run Tryz.prog (W1.alloc (.cells lit64 123)).drew = .ok () (W1.alloc (.cells T 123)).drew := hst0
  unfold lit64 at hst
  clear hst0 L1 h D1 P1 F1 hk hs hq hN hyes hlen hrl hnk htd hb1 hlt hrow0 a1 a2 a3 a4 a5 ht
  go_region
  have D2 := alloc_keep (unhide HD1) (Obj.cells T 123)
  have P2 := alloc_keep (unhide HP1) (Obj.cells T 123)
  have F2 := ((unhide HF1).alloc (Obj.cells T 123)).drew
  clear p0 p0a c5 c5a l1 l2 hT hst HD1 HP1 HF1
  have D2 : (W1.alloc (Obj.cells T 123)).drew.heap[d]? = _ := D2
  have P2 : (W1.alloc (Obj.cells T 123)).drew.heap[b1]? = _ := P2
  generalize (W1.alloc (Obj.cells T 123)).drew = W2 at *
  have N2 : NMap W2 nb S.N S.now := (unhide H).now.keep (F2.block nb (unhide H).now.lt (by simp))
  have S2 : BMap W2 sb S.N (fun j => S.since.any fun p => p.1 == j) S.base := (unhide H).syn.keep (F2.block sb (unhide H).syn.lt (by simp))
  have HD3 := hide D2
  have HP3 := hide P2
  have HN3 := hide N2
  have HS3 : Hid (BMap W2 sb S.N (setB (fun j => S.since.any fun p => p.1 == j) k) S.base) := S2.congr (fun j _ => by
    simp only [setB]
    by_cases c : j = k
    · subst c; rw [(unhide HM).2.2.2.2.1]; simp
    · simp [c]) (fun _ _ _ => rfl)
  have HF3 : Hid (Fr [sb] w W2) := F2.mono (fun _ _ c => by cases c)
  clear D2 P2 F2 N2 S2
  obtain ⟨W3, hW3⟩ : ∃ W3, W3 = W2 := ⟨_, rfl⟩
  rw [← hW3] at HD3 HP3 HN3 HS3 HF3 ⊢
  clear hW3
  go_wp2_with fail
  obtain ⟨W4, r4, N4, g4⟩ := NMap.store (w := W3.drew) ((unhide HN3).keep rfl) (unhide HM).2.2.2.1 (unhide HM).1 (unhide HM).2.1
  have c4 := dcell (unhide HD3) 4 rfl
  have p0 := dcell (unhide HP3) 0 (v := .int .i64 (k : Int)) rfl
  have HR3 := hide (range_bytes (X := W3.drew) (unhide HP3))
  have HI3 : Hid ((Tryz.prog.info? 123).map (·.size) = some (blkC s).length) := by unfold Hid; rw [blkC_len, (unhide HM).2.1]; exact Tryz.infoBlock
  unfold blkV at r4
  have D4 := grown_keep (X := W3.drew) g4 (unhide HD3) (unhide HA).1
  have P4 := grown_keep (X := W3.drew) g4 (unhide HP3) (by have := (unhide HM).2.2.2.2.2.2.2.2.2.1; have := (unhide H).now.lt; omega)
  have HS4 : Hid (BMap W4 sb S.N (setB (fun j => S.since.any fun p => p.1 == j) k) S.base) := (unhide HS3).keep (g4.block sb (unhide HS3).lt (by have := (unhide H).ne; simpa using Ne.symm this))
  have HF4 : Hid (Fr [nb, sb] w W4) := ((unhide HF3).drew.mono (fun _ _ c => by simp at c; simp [c])).tr ((Fr.ofGrown g4).mono (fun _ _ c => by simp at c; simp [c]))
  have HN4 := hide N4
  have HD4 := hide D4
  have HP4 := hide P4
  clear N4 D4 P4 g4 HD3 HP3 HN3 HS3 HF3
  have HS4a : Hid ((fun w' : World => w'.cell? ⟨d, 4, none⟩ = some (.map (some nb)) ∧ w'.cell? ⟨b1, 0, none⟩ = some (.int .i64 (k : Int)) ∧ w'.rangeAt b1 1 (blkC s)) W3.drew) := ⟨c4, p0, unhide HR3⟩
  have HS4b : Hid ((fun w' : World => w'.cell? ⟨d, 4, none⟩ = some (.map (some nb)) ∧ w'.cell? ⟨b1, 0, none⟩ = some (.int .i64 (k : Int)) ∧ w'.rangeAt b1 1 (blkC s)) W4) := ⟨dcell (unhide HD4) 4 rfl, dcell (unhide HP4) 0 rfl, range_bytes (unhide HP4)⟩
  have hu63 := Tryz.underlying123
  have hi63 := unhide HI3
  go_region_held3 (fun w' : World => w'.cell? ⟨d, 4, none⟩ = some (.map (some nb)) ∧ w'.cell? ⟨b1, 0, none⟩ = some (.int .i64 (k : Int)) ∧ w'.rangeAt b1 1 (blkC s)) (first | exact unhide HS4a | exact unhide HS4b) (fail)
  clear r4 c4 p0 hu63 hi63
  have c3 := dcell (unhide HD4) 3 rfl
  have z3 := dfroz (unhide HD4) 3
  have c6 := dcell (unhide HD4) 6 rfl
  have e31 : (((S.since.length : Nat) : Int) + 1) = ((S.since.length + 1 : Nat) : Int) := by omega
  have w31 : IntKind.i64.wrap (((S.since.length : Nat) : Int) + 1) = (((S.since.length : Nat) : Int) + 1) := wrap_i64 (by omega) (by have := (unhide HM).2.2.1; omega)
  have HE := hide e31
  clear e31
  have D5 := dset (unhide HD4) 3 (.int .i64 (((S.since.length : Nat) : Int) + 1))
  have P5 : (W4.setCell ⟨d, 3, none⟩ (.int .i64 (((S.since.length : Nat) : Int) + 1))).heap[b1]? = _ := (Below.heap_setCell _ _ _ _ (by have := (unhide HM).2.2.2.2.2.2.2.2.2.1; have := (unhide HM).2.2.2.2.2.2.2.2.2.2.1; show b1 ≠ d; omega)).trans (unhide HP4)
  have HD5 := hide D5
  have HP5 := hide P5
  clear D5 P5
  have hl31 : ((S.since.length : Nat) : Int) < 31 := by have := (unhide HM).2.2.2.2.2.1; omega
  go_upto_region 7 with fail
  generalize hW5 : W4.setCell ⟨d, 3, none⟩ (.int .i64 (((S.since.length : Nat) : Int) + 1)) = W5 at *
  have FX : Fr [d, nb, sb] w W5 := by rw [← hW5]; exact ((unhide HF4).mono (fun _ _ c => by simp at c; simp [c])).setCell (Or.inr (by simp)) _
  have kk : ∀ x, x ≠ d → W5.heap[x]? = W4.heap[x]? := fun x hx => by rw [← hW5]; exact Below.heap_setCell _ _ _ _ hx
  clear hW5 c3 z3 c6 hl31 w31
  have h := unhide H
  obtain ⟨a1, a2, a3, a4, a5⟩ := unhide HA
  have N5 := (unhide HN4).keep (kk nb (Ne.symm a1))
  have S5 := (unhide HS4).keep (kk sb (Ne.symm a2))
  have R5r : W5.ownsRow 0 125 65 (.slice fa S.since.length fc) S.since.length ((S.since.take 31).flatMap wrC) := own_keep (unhide HM).2.2.2.2.2.2.2.2.2.2.2 (fun x hx => FX.block x (World.ownsRow.lt (unhide HM).2.2.2.2.2.2.2.2.2.2.2 x hx).2 (by
    simp only [List.mem_cons, List.not_mem_nil, or_false, not_or]
    exact ⟨fun c => a3 (by rw [← c]; exact hx), fun c => a4 (by rw [← c]; exact hx), fun c => a5 (by rw [← c]; exact hx)⟩))
  have HX := hide (And.intro FX (And.intro N5 (And.intro S5 R5r)))
  obtain ⟨i0, z0, hi, hz0, hz1, hz2, hz3⟩ := infoW
  have HI := hide (And.intro hi (And.intro hz0 (And.intro hz1 (And.intro hz2 hz3))))
  clear hi hz0 hz1 hz2 hz3
  have q6 := dcell (unhide HD5) 6 rfl
  have q6a : ∀ o, (W5.alloc o).cell? ⟨d, 6, none⟩ = some (.slice fa S.since.length fc) := fun o => dcell (alloc_keep (unhide HD5) o) 6 rfl
  have HR5 := hide (range_all (X := W5.drew) (unhide HP5))
  have HI5 : Hid ((Tryz.prog.info? 125).map (·.size) = some (wrC (k, s)).length) := by unfold Hid; rw [wrC_len (unhide HM).2.1]; exact Tryz.infoWrite
  have HO := hide (wrC_one (k, s))
  have HL := hide (wrC_len (p := (k, s)) (unhide HM).2.1)
  clear h a1 a2 a3 a4 a5 N5 S5 R5r FX kk
  refine wp_region_any (by kernel_rfl) ?_
  change wpAny _ _ _ _ _ _ _ (World.drew _)
  refine wpAny_take (i := 0) (v := .pointer (some ⟨d, 0, none⟩)) rfl (by kernel_rfl) (by kernel_rfl) (by kernel_rfl) (fun _ _ _ h => h) (Or.inl ⟨by rfl, fun w => by go_simp⟩) ?_
  go_frame
  refine wpAny_take (i := 1) (v := .pointer (some ⟨d, 0, none⟩)) rfl (by kernel_rfl) (by kernel_rfl) (by kernel_rfl) (fun _ _ _ h => h) (Or.inl ⟨by rfl, fun w => by go_simp⟩) ?_
  go_frame
  refine wpAny_take (i := 2) (v := .pointer (some ⟨d, 0, none⟩)) rfl (by kernel_rfl) (by kernel_rfl) (by kernel_rfl) (fun _ _ _ h => h) (Or.inl ⟨by rfl, fun w => by go_simp⟩) ?_
  go_frame
  refine wpAny_take (i := 3) (v := .pointer (some ⟨d, 6, none⟩)) rfl (by kernel_rfl) (by kernel_rfl) (by kernel_rfl) (fun _ _ _ h => h) (Or.inl ⟨by rfl, fun w => by go_simp⟩) ?_
  go_frame
  refine wpAny_ready (rs := [4, 5]) (by kernel_rfl) (by simp) (AllReady.cons (o := ⟨some 56, .load 74 (.tmp 55), 74, "disk.go:110", #[⟨3, .data⟩], none⟩) rfl (fun K hK => ?_) (AllReady.cons (o := ⟨some 57, .load 125 (.tmp 3), 125, "disk.go:110", #[], none⟩) rfl (fun K hK => ?_) AllReady.nil))
  · go_simp
    refine hK _ _ ?_
    clear hK K
    try go_frame
    refine wpAny_ready (rs := [5]) (by kernel_rfl) (by simp) (AllReady.cons (o := ⟨some 57, .load 125 (.tmp 3), 125, "disk.go:110", #[], none⟩) rfl (fun K hK => ?_) AllReady.nil)
    refine step_load_mid rfl 125 (.tmp 3) rfl b1 0 (by simp [Act.eval]) (wrC (k, s)) _ (unhide HR5) Tryz.underlying125 rfl (unhide HI5) ?_
    refine hK _ _ ?_
    clear hK K
    try go_frame
    refine wpAny_ready (rs := [6]) (by kernel_rfl) (by simp) (AllReady.cons (o := ⟨some 58, .buildSlice 74 1 #[(0, .tmp 57)], 74, "disk.go:110", #[⟨5, .data⟩], none⟩) rfl (fun K hK => ?_) AllReady.nil)
    refine step_buildSlice rfl 74 (.tmp 57) rfl (wrC (k, s)) (by simp [Act.eval]) 125 Tryz.underlying74 i0 z0 (unhide HI).1 (unhide HI).2.1 (by rw [unhide HL]; exact (unhide HI).2.2.1) (by rw [unhide HL]; exact (unhide HI).2.2.2.2) (by rw [unhide HL]; decide) (by rw [unhide HL]; decide) ?_
    refine hK _ _ ?_
    clear hK K
    try go_frame
    refine wpAny_ready (rs := [7]) (by kernel_rfl) (by simp) (AllReady.cons (o := ⟨some 59, .call { callee := .builtin .append, args := #[.tmp 56, .tmp 58], argTypes := #[74, 74] }, 74, "disk.go:110", #[⟨4, .data⟩, ⟨6, .data⟩], none⟩) rfl (fun K hK => ?_) AllReady.nil)
    refine step_append_own rfl (.tmp 56) (.tmp 58) 74 rfl 0 125 i0 z0 65 72 Tryz.underlying74 (unhide HI).1 (unhide HI).2.1 (unhide HI).2.2.1 (unhide HI).2.2.2.1 (unhide HI).2.2.2.2 (by decide) (.slice fa S.since.length fc) S.since.length ((S.since.take 31).flatMap wrC) (by simp [Act.eval]) ((unhide HX).2.2.2.drew.alloc _) ⟨W5.heap.size, 0, none⟩ 1 1 (wrC (k, s)) (by simp [Act.eval]) (unhide HL) (row_new W5.drew (wrC (k, s)) 125) (unhide HO) (room31 (unhide HM).2.2.2.2.2.1).1 (room31 (unhide HM).2.2.2.2.2.1).2 (Nat.zero_le _) ?_
    intro v' w6 hown' hgrow hat
    obtain ⟨k1, k2, k3, ⟨g', cp, rfl⟩⟩ := put_end (unhide H) (unhide HA) (unhide HM).1 (unhide HM).2.1 (unhide HM).2.2.2.2.2.1 (unhide HX).1 (unhide HX).2.1 (unhide HX).2.2.1 (unhide HE) (unhide HD5) hown' hgrow hat
    refine hK _ _ ?_
    clear hK K
    try go_frame
    refine wpAny_take (i := 8) (v := .pointer (some ⟨d, 0, none⟩)) rfl (by kernel_rfl) (by kernel_rfl) (by kernel_rfl) (fun _ _ _ h => h) (Or.inl ⟨by rfl, fun w => by go_simp⟩) ?_
    try go_frame
    refine wpAny_take (i := 9) (v := .pointer (some ⟨d, 6, none⟩)) rfl (by kernel_rfl) (by kernel_rfl) (by kernel_rfl) (fun _ _ _ h => h) (Or.inl ⟨by rfl, fun w => by go_simp⟩) ?_
    try go_frame
    refine wpAny_ready (rs := [10]) (by kernel_rfl) (by simp) (AllReady.cons (o := ⟨none, .store 74 (.tmp 61) (.tmp 59), 0, "disk.go:110", #[⟨9, .data⟩, ⟨7, .data⟩, ⟨7, .chain⟩, ⟨0, .phase⟩, ⟨1, .phase⟩, ⟨2, .phase⟩, ⟨3, .phase⟩, ⟨4, .phase⟩, ⟨5, .phase⟩, ⟨6, .phase⟩, ⟨7, .phase⟩], none⟩) rfl (fun K hK => ?_) AllReady.nil)
    go_simp
    refine hK _ _ ?_
    clear hK K
    refine wpAny_done (by kernel_rfl) ?_ _
    go_wp2_with fail
    go_end0
    exact ⟨rfl, k3⟩
  · refine step_load_mid rfl 125 (.tmp 3) rfl b1 0 (by simp [Act.eval]) (wrC (k, s)) _ (unhide HR5) Tryz.underlying125 rfl (unhide HI5) ?_
    refine hK _ _ ?_
    clear hK K
    try go_frame
    refine wpAny_ready (rs := [4, 6]) (by kernel_rfl) (by simp) (AllReady.cons (o := ⟨some 56, .load 74 (.tmp 55), 74, "disk.go:110", #[⟨3, .data⟩], none⟩) rfl (fun K hK => ?_) (AllReady.cons (o := ⟨some 58, .buildSlice 74 1 #[(0, .tmp 57)], 74, "disk.go:110", #[⟨5, .data⟩], none⟩) rfl (fun K hK => ?_) AllReady.nil))
    · go_simp
      refine hK _ _ ?_
      clear hK K
      try go_frame
      refine wpAny_ready (rs := [6]) (by kernel_rfl) (by simp) (AllReady.cons (o := ⟨some 58, .buildSlice 74 1 #[(0, .tmp 57)], 74, "disk.go:110", #[⟨5, .data⟩], none⟩) rfl (fun K hK => ?_) AllReady.nil)
      refine step_buildSlice rfl 74 (.tmp 57) rfl (wrC (k, s)) (by simp [Act.eval]) 125 Tryz.underlying74 i0 z0 (unhide HI).1 (unhide HI).2.1 (by rw [unhide HL]; exact (unhide HI).2.2.1) (by rw [unhide HL]; exact (unhide HI).2.2.2.2) (by rw [unhide HL]; decide) (by rw [unhide HL]; decide) ?_
      refine hK _ _ ?_
      clear hK K
      try go_frame
      refine wpAny_ready (rs := [7]) (by kernel_rfl) (by simp) (AllReady.cons (o := ⟨some 59, .call { callee := .builtin .append, args := #[.tmp 56, .tmp 58], argTypes := #[74, 74] }, 74, "disk.go:110", #[⟨4, .data⟩, ⟨6, .data⟩], none⟩) rfl (fun K hK => ?_) AllReady.nil)
      refine step_append_own rfl (.tmp 56) (.tmp 58) 74 rfl 0 125 i0 z0 65 72 Tryz.underlying74 (unhide HI).1 (unhide HI).2.1 (unhide HI).2.2.1 (unhide HI).2.2.2.1 (unhide HI).2.2.2.2 (by decide) (.slice fa S.since.length fc) S.since.length ((S.since.take 31).flatMap wrC) (by simp [Act.eval]) ((unhide HX).2.2.2.drew.alloc _) ⟨W5.heap.size, 0, none⟩ 1 1 (wrC (k, s)) (by simp [Act.eval]) (unhide HL) (row_new W5.drew (wrC (k, s)) 125) (unhide HO) (room31 (unhide HM).2.2.2.2.2.1).1 (room31 (unhide HM).2.2.2.2.2.1).2 (Nat.zero_le _) ?_
      intro v' w6 hown' hgrow hat
      obtain ⟨k1, k2, k3, ⟨g', cp, rfl⟩⟩ := put_end (unhide H) (unhide HA) (unhide HM).1 (unhide HM).2.1 (unhide HM).2.2.2.2.2.1 (unhide HX).1 (unhide HX).2.1 (unhide HX).2.2.1 (unhide HE) (unhide HD5) hown' hgrow hat
      refine hK _ _ ?_
      clear hK K
      try go_frame
      refine wpAny_take (i := 8) (v := .pointer (some ⟨d, 0, none⟩)) rfl (by kernel_rfl) (by kernel_rfl) (by kernel_rfl) (fun _ _ _ h => h) (Or.inl ⟨by rfl, fun w => by go_simp⟩) ?_
      try go_frame
      refine wpAny_take (i := 9) (v := .pointer (some ⟨d, 6, none⟩)) rfl (by kernel_rfl) (by kernel_rfl) (by kernel_rfl) (fun _ _ _ h => h) (Or.inl ⟨by rfl, fun w => by go_simp⟩) ?_
      try go_frame
      refine wpAny_ready (rs := [10]) (by kernel_rfl) (by simp) (AllReady.cons (o := ⟨none, .store 74 (.tmp 61) (.tmp 59), 0, "disk.go:110", #[⟨9, .data⟩, ⟨7, .data⟩, ⟨7, .chain⟩, ⟨0, .phase⟩, ⟨1, .phase⟩, ⟨2, .phase⟩, ⟨3, .phase⟩, ⟨4, .phase⟩, ⟨5, .phase⟩, ⟨6, .phase⟩, ⟨7, .phase⟩], none⟩) rfl (fun K hK => ?_) AllReady.nil)
      go_simp
      refine hK _ _ ?_
      clear hK K
      refine wpAny_done (by kernel_rfl) ?_ _
      go_wp2_with fail
      go_end0
      exact ⟨rfl, k3⟩
    · refine step_buildSlice rfl 74 (.tmp 57) rfl (wrC (k, s)) (by simp [Act.eval]) 125 Tryz.underlying74 i0 z0 (unhide HI).1 (unhide HI).2.1 (by rw [unhide HL]; exact (unhide HI).2.2.1) (by rw [unhide HL]; exact (unhide HI).2.2.2.2) (by rw [unhide HL]; decide) (by rw [unhide HL]; decide) ?_
      refine hK _ _ ?_
      clear hK K
      try go_frame
      refine wpAny_ready (rs := [4]) (by kernel_rfl) (by simp) (AllReady.cons (o := ⟨some 56, .load 74 (.tmp 55), 74, "disk.go:110", #[⟨3, .data⟩], none⟩) rfl (fun K hK => ?_) AllReady.nil)
      go_simp
      refine hK _ _ ?_
      clear hK K
      try go_frame
      refine wpAny_ready (rs := [7]) (by kernel_rfl) (by simp) (AllReady.cons (o := ⟨some 59, .call { callee := .builtin .append, args := #[.tmp 56, .tmp 58], argTypes := #[74, 74] }, 74, "disk.go:110", #[⟨4, .data⟩, ⟨6, .data⟩], none⟩) rfl (fun K hK => ?_) AllReady.nil)
      refine step_append_own rfl (.tmp 56) (.tmp 58) 74 rfl 0 125 i0 z0 65 72 Tryz.underlying74 (unhide HI).1 (unhide HI).2.1 (unhide HI).2.2.1 (unhide HI).2.2.2.1 (unhide HI).2.2.2.2 (by decide) (.slice fa S.since.length fc) S.since.length ((S.since.take 31).flatMap wrC) (by simp [Act.eval]) ((unhide HX).2.2.2.drew.alloc _) ⟨W5.heap.size, 0, none⟩ 1 1 (wrC (k, s)) (by simp [Act.eval]) (unhide HL) (row_new W5.drew (wrC (k, s)) 125) (unhide HO) (room31 (unhide HM).2.2.2.2.2.1).1 (room31 (unhide HM).2.2.2.2.2.1).2 (Nat.zero_le _) ?_
      intro v' w6 hown' hgrow hat
      obtain ⟨k1, k2, k3, ⟨g', cp, rfl⟩⟩ := put_end (unhide H) (unhide HA) (unhide HM).1 (unhide HM).2.1 (unhide HM).2.2.2.2.2.1 (unhide HX).1 (unhide HX).2.1 (unhide HX).2.2.1 (unhide HE) (unhide HD5) hown' hgrow hat
      refine hK _ _ ?_
      clear hK K
      try go_frame
      refine wpAny_take (i := 8) (v := .pointer (some ⟨d, 0, none⟩)) rfl (by kernel_rfl) (by kernel_rfl) (by kernel_rfl) (fun _ _ _ h => h) (Or.inl ⟨by rfl, fun w => by go_simp⟩) ?_
      try go_frame
      refine wpAny_take (i := 9) (v := .pointer (some ⟨d, 6, none⟩)) rfl (by kernel_rfl) (by kernel_rfl) (by kernel_rfl) (fun _ _ _ h => h) (Or.inl ⟨by rfl, fun w => by go_simp⟩) ?_
      try go_frame
      refine wpAny_ready (rs := [10]) (by kernel_rfl) (by simp) (AllReady.cons (o := ⟨none, .store 74 (.tmp 61) (.tmp 59), 0, "disk.go:110", #[⟨9, .data⟩, ⟨7, .data⟩, ⟨7, .chain⟩, ⟨0, .phase⟩, ⟨1, .phase⟩, ⟨2, .phase⟩, ⟨3, .phase⟩, ⟨4, .phase⟩, ⟨5, .phase⟩, ⟨6, .phase⟩, ⟨7, .phase⟩], none⟩) rfl (fun K hK => ?_) AllReady.nil)
      go_simp
      refine hK _ _ ?_
      clear hK K
      refine wpAny_done (by kernel_rfl) ?_ _
      go_wp2_with fail
      go_end0
      exact ⟨rfl, k3⟩
set_option maxRecDepth 100000 in
set_option maxHeartbeats 4000000 in
theorem put_c {d nb sb cb : Nat} {fv cv : Value} {S : DS} {w : World} (h : Dk w d nb sb cb fv cv S) {k : Nat} {s : ByteArray} (hk : k < S.N) (hs : s.size = 64) (hq : S.since.length < 4611686018427387904) (hyes : (S.since.any fun p => p.1 == k) = false) (hlen : 31 ≤ S.since.length) :
    Calls Tryz.prog 135 #[ptr d, .agg (wrC (k, s)).toArray] w fun e w' => e = .returned (.tuple #[]) ∧ ∃ Z', DkS w' d (S.put k s) Z' ∧ Mv w w' (dfoot d nb sb cb fv S) Z' := by
  have hN := h.ok.n2
  obtain ⟨a1, a2, a3, a4, a5⟩ := h.apart
  have hlt := lt_of_blk h.blk
  have hrl : (S.since.take 31).length = 31 := by simp; omega
  have hrow0 := h.row
  unfold FRow at hrow0
  rw [hrl] at hrow0
  obtain ⟨fa, fc, hfv⟩ := own_slice hrow0
  subst hfv
  obtain ⟨t, htd⟩ : ∃ t, t = (if (S.since.any fun p => p.1 == k) then S.base k else nought) := ⟨_, rfl⟩
  have ht : t.size = 64 := by rw [htd]; split <;> first | exact h.ok.sz k | exact nought_size
  have hnk := h.ok.now k
  -- the world behind the box
  have D1 := alloc_keep h.blk (Obj.cells (wrC (k, s)).toArray 125)
  have P1 := heap_alloc_new w (Obj.cells (wrC (k, s)).toArray 125)
  have F1 : Fr [] w (w.alloc (Obj.cells (wrC (k, s)).toArray 125)) := (Fr.refl _ _).alloc _
  obtain ⟨b1, hb1⟩ : ∃ b1, b1 = w.heap.size := ⟨_, rfl⟩
  have L1 : ∀ W : World, Fr [] w W → (Instr.lookup 73 (.map (some sb)) (.int .i64 (k : Int)) true).run Tryz.prog W = .ok (.tuple #[blkV t, .bool false]) W := by
    intro W hW
    have := (h.syn.keep (hW.block sb h.syn.lt (by simp))).lookOk hN hk
    rw [← htd, hyes] at this
    exact this
  unfold ptr
  go_enter Tryz.func135, Tryz.ntmps135
  go_upto_region 1 with fail
  rw [← hb1] at P1 ⊢
  generalize hW1 : w.alloc (Obj.cells (wrC (k, s)).toArray 125) = W1 at *
  clear hW1
  have H := hide h
  have HD1 := hide D1
  have HP1 := hide P1
  have HF1 := hide F1
  have HM := hide (And.intro hk (And.intro hs (And.intro hq (And.intro hN (And.intro hyes (And.intro hlen (And.intro hrl (And.intro hnk (And.intro htd (And.intro hb1 (And.intro hlt hrow0)))))))))))
  have HA := hide (And.intro a1 (And.intro a2 (And.intro a3 (And.intro a4 a5))))
  have p0 := dcell P1 0 (v := .int .i64 (k : Int)) rfl
  have p0a : ∀ o, (W1.alloc o).cell? ⟨b1, 0, none⟩ = some (.int .i64 (k : Int)) := fun o => dcell (alloc_keep (unhide HP1) o) 0 rfl
  have c5 := dcell D1 5 rfl
  have c5a : ∀ o, (W1.alloc o).cell? ⟨d, 5, none⟩ = some (.map (some sb)) := fun o => dcell (alloc_keep (unhide HD1) o) 5 rfl
  have l1 := L1 W1.drew (unhide HF1).drew
  have l2 := fun o => L1 (W1.alloc o).drew ((unhide HF1).alloc o).drew
  unfold blkV at l1 l2
  have hT := blk_sz ht
  have hst0 := run_storeCells_new (P := Tryz.prog) W1.drew 123 lit64 (blkC t).toArray (infoRow hT) (by rw [hT]; rfl) (blk_one t)
  generalize (blkC t).toArray = T at *
  have hst : (storeCells ⟨W1.heap.size, 0, none⟩ T.toList 0).run Tryz.prog (W1.alloc (.cells lit64 123)).drew = .ok () (W1.alloc (.cells T 123)).drew := hst0
  unfold lit64 at hst
  clear hst0 L1 h D1 P1 F1 hk hs hq hN hyes hlen hrl hnk htd hb1 hlt hrow0 a1 a2 a3 a4 a5 ht
  go_region
  have D2 := alloc_keep (unhide HD1) (Obj.cells T 123)
  have P2 := alloc_keep (unhide HP1) (Obj.cells T 123)
  have F2 := ((unhide HF1).alloc (Obj.cells T 123)).drew
  clear p0 p0a c5 c5a l1 l2 hT hst HD1 HP1 HF1
  have D2 : (W1.alloc (Obj.cells T 123)).drew.heap[d]? = _ := D2
  have P2 : (W1.alloc (Obj.cells T 123)).drew.heap[b1]? = _ := P2
  generalize (W1.alloc (Obj.cells T 123)).drew = W2 at *
  have N2 : NMap W2 nb S.N S.now := (unhide H).now.keep (F2.block nb (unhide H).now.lt (by simp))
  have S2 : BMap W2 sb S.N (fun j => S.since.any fun p => p.1 == j) S.base := (unhide H).syn.keep (F2.block sb (unhide H).syn.lt (by simp))
  obtain ⟨W3, r3, S3, g3⟩ := BMap.store (w := W2.drew) (S2.keep rfl) (unhide HM).2.2.2.1 (unhide HM).1 (unhide HM).2.2.2.2.2.2.2.1
  have l3 := NMap.look (w := W2.drew) (N2.keep rfl) (unhide HM).2.2.2.1 (unhide HM).1
  have c4 := dcell D2 4 rfl
  have c5 := dcell D2 5 rfl
  have p0 := dcell P2 0 (v := .int .i64 (k : Int)) rfl
  have ne1 : d ≠ sb := (unhide HA).2.1
  have D3 := grown_keep (X := W2.drew) g3 D2 ne1
  have P3 := grown_keep (X := W2.drew) g3 P2 (by have := (unhide HM).2.2.2.2.2.2.2.2.2.1; have := (unhide H).syn.lt; omega)
  have N3 : NMap W3 nb S.N S.now := N2.keep (g3.block nb N2.lt (by have := (unhide H).ne; simpa using this))
  have S3' : BMap W3 sb S.N (setB (fun j => S.since.any fun p => p.1 == j) k) S.base := S3.congr (fun _ _ => rfl) (fun j _ _ => by
    by_cases c : j = k
    · subst c; rw [upd_same]; exact cur_other (unhide HM).2.2.2.2.1
    · rw [upd_other _ _ c])
  have F3 : Fr [sb] w W3 := (F2.drew.mono (fun _ _ c => by cases c)).tr (Fr.ofGrown g3)
  have HD3 := hide D3
  have HP3 := hide P3
  have HN3 := hide N3
  have HS3 := hide S3'
  have HF3 := hide F3
  clear D3 P3 N3 S3 S3' F3 N2 S2 g3 ne1 D2 P2 F2
  go_wp2_with fail
  go_region
  clear r3 l3 c4 c5 p0
  go_wp2_with fail
  obtain ⟨W4, r4, N4, g4⟩ := NMap.store (w := W3.drew) ((unhide HN3).keep rfl) (unhide HM).2.2.2.1 (unhide HM).1 (unhide HM).2.1
  have c4 := dcell (unhide HD3) 4 rfl
  have p0 := dcell (unhide HP3) 0 (v := .int .i64 (k : Int)) rfl
  have HR3 := hide (range_bytes (X := W3.drew) (unhide HP3))
  have HI3 : Hid ((Tryz.prog.info? 123).map (·.size) = some (blkC s).length) := by unfold Hid; rw [blkC_len, (unhide HM).2.1]; exact Tryz.infoBlock
  unfold blkV at r4
  have D4 := grown_keep (X := W3.drew) g4 (unhide HD3) (unhide HA).1
  have P4 := grown_keep (X := W3.drew) g4 (unhide HP3) (by have := (unhide HM).2.2.2.2.2.2.2.2.2.1; have := (unhide H).now.lt; omega)
  have HS4 : Hid (BMap W4 sb S.N (setB (fun j => S.since.any fun p => p.1 == j) k) S.base) := (unhide HS3).keep (g4.block sb (unhide HS3).lt (by have := (unhide H).ne; simpa using Ne.symm this))
  have HF4 : Hid (Fr [nb, sb] w W4) := ((unhide HF3).drew.mono (fun _ _ c => by simp at c; simp [c])).tr ((Fr.ofGrown g4).mono (fun _ _ c => by simp at c; simp [c]))
  have HN4 := hide N4
  have HD4 := hide D4
  have HP4 := hide P4
  clear N4 D4 P4 g4 HD3 HP3 HN3 HS3 HF3
  have HS4a : Hid ((fun w' : World => w'.cell? ⟨d, 4, none⟩ = some (.map (some nb)) ∧ w'.cell? ⟨b1, 0, none⟩ = some (.int .i64 (k : Int)) ∧ w'.rangeAt b1 1 (blkC s)) W3.drew) := ⟨c4, p0, unhide HR3⟩
  have HS4b : Hid ((fun w' : World => w'.cell? ⟨d, 4, none⟩ = some (.map (some nb)) ∧ w'.cell? ⟨b1, 0, none⟩ = some (.int .i64 (k : Int)) ∧ w'.rangeAt b1 1 (blkC s)) W4) := ⟨dcell (unhide HD4) 4 rfl, dcell (unhide HP4) 0 rfl, range_bytes (unhide HP4)⟩
  have hu63 := Tryz.underlying123
  have hi63 := unhide HI3
  go_region_held3 (fun w' : World => w'.cell? ⟨d, 4, none⟩ = some (.map (some nb)) ∧ w'.cell? ⟨b1, 0, none⟩ = some (.int .i64 (k : Int)) ∧ w'.rangeAt b1 1 (blkC s)) (first | exact unhide HS4a | exact unhide HS4b) (fail)
  clear r4 c4 p0 hu63 hi63
  have c3 := dcell (unhide HD4) 3 rfl
  have z3 := dfroz (unhide HD4) 3
  have c6 := dcell (unhide HD4) 6 rfl
  have e31 : (((S.since.length : Nat) : Int) + 1) = ((S.since.length + 1 : Nat) : Int) := by omega
  have w31 : IntKind.i64.wrap (((S.since.length : Nat) : Int) + 1) = (((S.since.length : Nat) : Int) + 1) := wrap_i64 (by omega) (by have := (unhide HM).2.2.1; omega)
  have HE := hide e31
  clear e31
  have D5 := dset (unhide HD4) 3 (.int .i64 (((S.since.length : Nat) : Int) + 1))
  have P5 : (W4.setCell ⟨d, 3, none⟩ (.int .i64 (((S.since.length : Nat) : Int) + 1))).heap[b1]? = _ := (Below.heap_setCell _ _ _ _ (by have := (unhide HM).2.2.2.2.2.2.2.2.2.1; have := (unhide HM).2.2.2.2.2.2.2.2.2.2.1; show b1 ≠ d; omega)).trans (unhide HP4)
  have HD5 := hide D5
  have HP5 := hide P5
  clear D5 P5
  have hl31 : ¬ ((31 : Int) < 31) := by decide
  go_wp2_with fail
  go_end0
  refine ⟨rfl, ?_⟩
  have h := unhide H
  obtain ⟨a1, a2, a3, a4, a5⟩ := unhide HA
  have kk : ∀ x, x ≠ d → (W4.setCell ⟨d, 3, none⟩ (.int .i64 (((S.since.length : Nat) : Int) + 1))).heap[x]? = W4.heap[x]? := fun x hx => Below.heap_setCell _ _ _ _ hx
  have FX : Fr [d, nb, sb] w (W4.setCell ⟨d, 3, none⟩ (.int .i64 (((S.since.length : Nat) : Int) + 1))) := ((unhide HF4).mono (fun _ _ c => by simp at c; simp [c])).setCell (Or.inr (by simp)) _
  refine Dk.putted h (unhide HM).1 (unhide HM).2.1 ?_ ((unhide HN4).keep (kk nb (Ne.symm a1))) ((unhide HS4).keep (kk sb (Ne.symm a2))) ?_ (FX.mono (fun x _ c => by simp at c; rcases c with rfl | rfl | rfl; exact mem_dfoot.2 (Or.inl rfl); exact mem_dfoot.2 (Or.inr (Or.inl rfl)); exact mem_dfoot.2 (Or.inr (Or.inr (Or.inl rfl))))) (fun q1 q2 => ?_) (fun x hx => Or.inl hx)
  · rw [← unhide HE]; exact unhide HD5
  · have e : (S.since ++ [(k, s)]).take 31 = S.since.take 31 := List.take_append_of_le_length (unhide HM).2.2.2.2.2.1
    rw [e]
    refine own_keep h.row (fun x hx => FX.block x (World.ownsRow.lt h.row x hx).2 ?_)
    simp only [List.mem_cons, List.not_mem_nil, or_false, not_or]
    exact ⟨fun c => a3 (by rw [← c]; exact hx), fun c => a4 (by rw [← c]; exact hx), fun c => a5 (by rw [← c]; exact hx)⟩
  · obtain ⟨b1', b2', b3', _⟩ := h.apartC q1 q2
    obtain ⟨_, _, _, _, _, hb⟩ := h.come.cut q1 q2
    exact FX.block cb (lt_of_blk hb) (by simp [b1', b2', b3'])
set_option maxRecDepth 100000 in
set_option maxHeartbeats 4000000 in
theorem put_d {d nb sb cb : Nat} {fv cv : Value} {S : DS} {w : World} (h : Dk w d nb sb cb fv cv S) {k : Nat} {s : ByteArray} (hk : k < S.N) (hs : s.size = 64) (hq : S.since.length < 4611686018427387904) (hyes : (S.since.any fun p => p.1 == k) = true) (hlen : 31 ≤ S.since.length) :
    Calls Tryz.prog 135 #[ptr d, .agg (wrC (k, s)).toArray] w fun e w' => e = .returned (.tuple #[]) ∧ ∃ Z', DkS w' d (S.put k s) Z' ∧ Mv w w' (dfoot d nb sb cb fv S) Z' := by
  have hN := h.ok.n2
  obtain ⟨a1, a2, a3, a4, a5⟩ := h.apart
  have hlt := lt_of_blk h.blk
  have hrl : (S.since.take 31).length = 31 := by simp; omega
  have hrow0 := h.row
  unfold FRow at hrow0
  rw [hrl] at hrow0
  obtain ⟨fa, fc, hfv⟩ := own_slice hrow0
  subst hfv
  obtain ⟨t, htd⟩ : ∃ t, t = (if (S.since.any fun p => p.1 == k) then S.base k else nought) := ⟨_, rfl⟩
  have ht : t.size = 64 := by rw [htd]; split <;> first | exact h.ok.sz k | exact nought_size
  have hnk := h.ok.now k
  -- the world behind the box
  have D1 := alloc_keep h.blk (Obj.cells (wrC (k, s)).toArray 125)
  have P1 := heap_alloc_new w (Obj.cells (wrC (k, s)).toArray 125)
  have F1 : Fr [] w (w.alloc (Obj.cells (wrC (k, s)).toArray 125)) := (Fr.refl _ _).alloc _
  obtain ⟨b1, hb1⟩ : ∃ b1, b1 = w.heap.size := ⟨_, rfl⟩
  have L1 : ∀ W : World, Fr [] w W → (Instr.lookup 73 (.map (some sb)) (.int .i64 (k : Int)) true).run Tryz.prog W = .ok (.tuple #[blkV t, .bool true]) W := by
    intro W hW
    have := (h.syn.keep (hW.block sb h.syn.lt (by simp))).lookOk hN hk
    rw [← htd, hyes] at this
    exact this
  unfold ptr
  go_enter Tryz.func135, Tryz.ntmps135
  go_upto_region 1 with fail
  rw [← hb1] at P1 ⊢
  generalize hW1 : w.alloc (Obj.cells (wrC (k, s)).toArray 125) = W1 at *
  clear hW1
  have H := hide h
  have HD1 := hide D1
  have HP1 := hide P1
  have HF1 := hide F1
  have HM := hide (And.intro hk (And.intro hs (And.intro hq (And.intro hN (And.intro hyes (And.intro hlen (And.intro hrl (And.intro hnk (And.intro htd (And.intro hb1 (And.intro hlt hrow0)))))))))))
  have HA := hide (And.intro a1 (And.intro a2 (And.intro a3 (And.intro a4 a5))))
  have p0 := dcell P1 0 (v := .int .i64 (k : Int)) rfl
  have p0a : ∀ o, (W1.alloc o).cell? ⟨b1, 0, none⟩ = some (.int .i64 (k : Int)) := fun o => dcell (alloc_keep (unhide HP1) o) 0 rfl
  have c5 := dcell D1 5 rfl
  have c5a : ∀ o, (W1.alloc o).cell? ⟨d, 5, none⟩ = some (.map (some sb)) := fun o => dcell (alloc_keep (unhide HD1) o) 5 rfl
  have l1 := L1 W1.drew (unhide HF1).drew
  have l2 := fun o => L1 (W1.alloc o).drew ((unhide HF1).alloc o).drew
  unfold blkV at l1 l2
  have hT := blk_sz ht
  have hst0 := run_storeCells_new (P := Tryz.prog) W1.drew 123 lit64 (blkC t).toArray (infoRow hT) (by rw [hT]; rfl) (blk_one t)
  generalize (blkC t).toArray = T at *
  have hst : (storeCells ⟨W1.heap.size, 0, none⟩ T.toList 0).run Tryz.prog (W1.alloc (.cells lit64 123)).drew = .ok () (W1.alloc (.cells T 123)).drew := hst0
  unfold lit64 at hst
  clear hst0 L1 h D1 P1 F1 hk hs hq hN hyes hlen hrl hnk htd hb1 hlt hrow0 a1 a2 a3 a4 a5 ht
  go_region
  have D2 := alloc_keep (unhide HD1) (Obj.cells T 123)
  have P2 := alloc_keep (unhide HP1) (Obj.cells T 123)
  have F2 := ((unhide HF1).alloc (Obj.cells T 123)).drew
  clear p0 p0a c5 c5a l1 l2 hT hst HD1 HP1 HF1
  have D2 : (W1.alloc (Obj.cells T 123)).drew.heap[d]? = _ := D2
  have P2 : (W1.alloc (Obj.cells T 123)).drew.heap[b1]? = _ := P2
  generalize (W1.alloc (Obj.cells T 123)).drew = W2 at *
  have N2 : NMap W2 nb S.N S.now := (unhide H).now.keep (F2.block nb (unhide H).now.lt (by simp))
  have S2 : BMap W2 sb S.N (fun j => S.since.any fun p => p.1 == j) S.base := (unhide H).syn.keep (F2.block sb (unhide H).syn.lt (by simp))
  have HD3 := hide D2
  have HP3 := hide P2
  have HN3 := hide N2
  have HS3 : Hid (BMap W2 sb S.N (setB (fun j => S.since.any fun p => p.1 == j) k) S.base) := S2.congr (fun j _ => by
    simp only [setB]
    by_cases c : j = k
    · subst c; rw [(unhide HM).2.2.2.2.1]; simp
    · simp [c]) (fun _ _ _ => rfl)
  have HF3 : Hid (Fr [sb] w W2) := F2.mono (fun _ _ c => by cases c)
  clear D2 P2 F2 N2 S2
  obtain ⟨W3, hW3⟩ : ∃ W3, W3 = W2 := ⟨_, rfl⟩
  rw [← hW3] at HD3 HP3 HN3 HS3 HF3 ⊢
  clear hW3
  go_wp2_with fail
  obtain ⟨W4, r4, N4, g4⟩ := NMap.store (w := W3.drew) ((unhide HN3).keep rfl) (unhide HM).2.2.2.1 (unhide HM).1 (unhide HM).2.1
  have c4 := dcell (unhide HD3) 4 rfl
  have p0 := dcell (unhide HP3) 0 (v := .int .i64 (k : Int)) rfl
  have HR3 := hide (range_bytes (X := W3.drew) (unhide HP3))
  have HI3 : Hid ((Tryz.prog.info? 123).map (·.size) = some (blkC s).length) := by unfold Hid; rw [blkC_len, (unhide HM).2.1]; exact Tryz.infoBlock
  unfold blkV at r4
  have D4 := grown_keep (X := W3.drew) g4 (unhide HD3) (unhide HA).1
  have P4 := grown_keep (X := W3.drew) g4 (unhide HP3) (by have := (unhide HM).2.2.2.2.2.2.2.2.2.1; have := (unhide H).now.lt; omega)
  have HS4 : Hid (BMap W4 sb S.N (setB (fun j => S.since.any fun p => p.1 == j) k) S.base) := (unhide HS3).keep (g4.block sb (unhide HS3).lt (by have := (unhide H).ne; simpa using Ne.symm this))
  have HF4 : Hid (Fr [nb, sb] w W4) := ((unhide HF3).drew.mono (fun _ _ c => by simp at c; simp [c])).tr ((Fr.ofGrown g4).mono (fun _ _ c => by simp at c; simp [c]))
  have HN4 := hide N4
  have HD4 := hide D4
  have HP4 := hide P4
  clear N4 D4 P4 g4 HD3 HP3 HN3 HS3 HF3
  have HS4a : Hid ((fun w' : World => w'.cell? ⟨d, 4, none⟩ = some (.map (some nb)) ∧ w'.cell? ⟨b1, 0, none⟩ = some (.int .i64 (k : Int)) ∧ w'.rangeAt b1 1 (blkC s)) W3.drew) := ⟨c4, p0, unhide HR3⟩
  have HS4b : Hid ((fun w' : World => w'.cell? ⟨d, 4, none⟩ = some (.map (some nb)) ∧ w'.cell? ⟨b1, 0, none⟩ = some (.int .i64 (k : Int)) ∧ w'.rangeAt b1 1 (blkC s)) W4) := ⟨dcell (unhide HD4) 4 rfl, dcell (unhide HP4) 0 rfl, range_bytes (unhide HP4)⟩
  have hu63 := Tryz.underlying123
  have hi63 := unhide HI3
  go_region_held3 (fun w' : World => w'.cell? ⟨d, 4, none⟩ = some (.map (some nb)) ∧ w'.cell? ⟨b1, 0, none⟩ = some (.int .i64 (k : Int)) ∧ w'.rangeAt b1 1 (blkC s)) (first | exact unhide HS4a | exact unhide HS4b) (fail)
  clear r4 c4 p0 hu63 hi63
  have c3 := dcell (unhide HD4) 3 rfl
  have z3 := dfroz (unhide HD4) 3
  have c6 := dcell (unhide HD4) 6 rfl
  have e31 : (((S.since.length : Nat) : Int) + 1) = ((S.since.length + 1 : Nat) : Int) := by omega
  have w31 : IntKind.i64.wrap (((S.since.length : Nat) : Int) + 1) = (((S.since.length : Nat) : Int) + 1) := wrap_i64 (by omega) (by have := (unhide HM).2.2.1; omega)
  have HE := hide e31
  clear e31
  have D5 := dset (unhide HD4) 3 (.int .i64 (((S.since.length : Nat) : Int) + 1))
  have P5 : (W4.setCell ⟨d, 3, none⟩ (.int .i64 (((S.since.length : Nat) : Int) + 1))).heap[b1]? = _ := (Below.heap_setCell _ _ _ _ (by have := (unhide HM).2.2.2.2.2.2.2.2.2.1; have := (unhide HM).2.2.2.2.2.2.2.2.2.2.1; show b1 ≠ d; omega)).trans (unhide HP4)
  have HD5 := hide D5
  have HP5 := hide P5
  clear D5 P5
  have hl31 : ¬ ((31 : Int) < 31) := by decide
  go_wp2_with fail
  go_end0
  refine ⟨rfl, ?_⟩
  have h := unhide H
  obtain ⟨a1, a2, a3, a4, a5⟩ := unhide HA
  have kk : ∀ x, x ≠ d → (W4.setCell ⟨d, 3, none⟩ (.int .i64 (((S.since.length : Nat) : Int) + 1))).heap[x]? = W4.heap[x]? := fun x hx => Below.heap_setCell _ _ _ _ hx
  have FX : Fr [d, nb, sb] w (W4.setCell ⟨d, 3, none⟩ (.int .i64 (((S.since.length : Nat) : Int) + 1))) := ((unhide HF4).mono (fun _ _ c => by simp at c; simp [c])).setCell (Or.inr (by simp)) _
  refine Dk.putted h (unhide HM).1 (unhide HM).2.1 ?_ ((unhide HN4).keep (kk nb (Ne.symm a1))) ((unhide HS4).keep (kk sb (Ne.symm a2))) ?_ (FX.mono (fun x _ c => by simp at c; rcases c with rfl | rfl | rfl; exact mem_dfoot.2 (Or.inl rfl); exact mem_dfoot.2 (Or.inr (Or.inl rfl)); exact mem_dfoot.2 (Or.inr (Or.inr (Or.inl rfl))))) (fun q1 q2 => ?_) (fun x hx => Or.inl hx)
  · rw [← unhide HE]; exact unhide HD5
  · have e : (S.since ++ [(k, s)]).take 31 = S.since.take 31 := List.take_append_of_le_length (unhide HM).2.2.2.2.2.1
    rw [e]
    refine own_keep h.row (fun x hx => FX.block x (World.ownsRow.lt h.row x hx).2 ?_)
    simp only [List.mem_cons, List.not_mem_nil, or_false, not_or]
    exact ⟨fun c => a3 (by rw [← c]; exact hx), fun c => a4 (by rw [← c]; exact hx), fun c => a5 (by rw [← c]; exact hx)⟩
  · obtain ⟨b1', b2', b3', _⟩ := h.apartC q1 q2
    obtain ⟨_, _, _, _, _, hb⟩ := h.come.cut q1 q2
    exact FX.block cb (lt_of_blk hb) (by simp [b1', b2', b3'])
theorem put_any {d : Nat} {S : DS} {Z : List Nat} {w : World} (h : DkS w d S Z) {k : Nat} {s : ByteArray} (hk : k < S.N) (hs : s.size = 64) (hq : S.since.length < 4611686018427387904) :
    Calls Tryz.prog 135 #[ptr d, .agg (wrC (k, s)).toArray] w fun e w' => e = .returned (.tuple #[]) ∧ ∃ Z', DkS w' d (S.put k s) Z' ∧ Mv w w' Z Z' := by
  obtain ⟨nb, sb, cb, fv, cv, rfl, h1⟩ := h
  cases hy : (S.since.any fun p => p.1 == k)
  · rcases Nat.lt_or_ge S.since.length 31 with c | c
    · exact put_a h1 hk hs hq hy c
    · exact put_c h1 hk hs hq hy c
  · rcases Nat.lt_or_ge S.since.length 31 with c | c
    · exact put_b h1 hk hs hq hy c
    · exact put_d h1 hk hs hq hy c

end Go.Proofs.YtfnpeiikjiffeaaGreat
