/- Feeds, earlies, links, packets that read as the same are the same: SameFeed to SamePackets. mkQuSm.py writes it. -/
import Derived.Test.YtndgdpefoidfbaaZ30
import Derived.Deep.RegionHeld3
namespace Go.Proofs.Ytndgdpefoidfbaa
open Go.RowKit Go.Maps
set_option maxRecDepth 100000 in
set_option maxHeartbeats 1000000 in
theorem sameFd_any {w : World} {f : Fd} {x y : Fx} (hx : FdR w f x) (hy : FdR w f y) (hs : SmF f) :
    Calls Try.prog 30 #[.agg (fdC f x).toArray, .agg (fdC f y).toArray] w fun e w' => e = .returned (.bool true) ∧ Below w.heap.size w w' := by
  obtain ⟨w0, hw0⟩ : ∃ w0, w0 = (w.alloc (.cells (fdC f x).toArray 42)).alloc (.cells (fdC f y).toArray 42) := ⟨_, rfl⟩
  have s0 : TwoB w w0 42 (fdC f x).toArray (fdC f y).toArray := by rw [hw0]; exact TwoB.start _ _ _ _
  obtain ⟨CX, hCX⟩ : ∃ z, z = cmC f.cm x.cx := ⟨_, rfl⟩
  obtain ⟨CY, hCY⟩ : ∃ z, z = cmC f.cm y.cx := ⟨_, rfl⟩
  obtain ⟨MX, hMX⟩ : ∃ z, z = mlC f.ml x.mx := ⟨_, rfl⟩
  obtain ⟨MY, hMY⟩ : ∃ z, z = mlC f.ml y.mx := ⟨_, rfl⟩
  have part : ∀ (z : Fx) (b : Nat), w0.heap[b]? = some (.cells (fdC f z).toArray 42 (0, 0)) → w0.rangeAt b 3 (cmC f.cm z.cx) ∧ w0.rangeAt b 18 (mlC f.ml z.mx) := fun z b k => by
    refine ⟨blk_rngQ k (fun j u hj => ?_), blk_rngQ k (fun j u hj => ?_)⟩
    · have : (fdC f z)[3 + j]? = some u := by
        unfold fdC
        rw [show 3 + j = j + 1 + 1 + 1 by omega, List.getElem?_cons_succ, List.getElem?_cons_succ, List.getElem?_cons_succ, List.getElem?_append_left (by exact (List.getElem?_eq_some_iff.1 hj).1)]
        exact hj
      simpa using this
    · have : (fdC f z)[18 + j]? = some u := by
        unfold fdC
        have hl : (cmC f.cm z.cx).length = 15 := rfl
        rw [show 18 + j = (15 + j) + 1 + 1 + 1 by omega, List.getElem?_cons_succ, List.getElem?_cons_succ, List.getElem?_cons_succ, List.getElem?_append_right (by rw [hl]; omega), hl, show 15 + j - 15 = j by omega, List.getElem?_append_left (by exact (List.getElem?_eq_some_iff.1 hj).1)]
        exact hj
      simpa using this
  have RCX : Hid (w0.rangeAt w.heap.size 3 CX) := by rw [hCX]; exact (part x _ s0.k1).1
  have RCY : Hid (w0.rangeAt (w.heap.size + 1) 3 CY) := by rw [hCY]; exact (part y _ s0.k2).1
  have RM : Hid (∀ V, Below w0.heap.size w0 V → V.rangeAt w.heap.size 18 MX ∧ V.rangeAt (w.heap.size + 1) 18 MY) := fun V hV => by rw [hMX, hMY]; exact ⟨rng_bw (part x _ s0.k1).2 hV, rng_bw (part y _ s0.k2).2 hV⟩
  have HCX : Hid ((Try.prog.info? 31).map (·.size) = some CX.length) := by rw [hCX]; exact infoCmS17
  have HCY : Hid ((Try.prog.info? 31).map (·.size) = some CY.length) := by rw [hCY]; exact infoCmS17
  have HMX : Hid ((Try.prog.info? 40).map (·.size) = some MX.length) := by rw [hMX]; exact infoMlS17
  have HMY : Hid ((Try.prog.info? 40).map (·.size) = some MY.length) := by rw [hMY]; exact infoMlS17
  have KC : Hid (Calls Try.prog 36 #[.agg CX.toArray, .agg CY.toArray] w0 fun e w' => e = .returned (.bool true) ∧ Below w0.heap.size w0 w') := by
    rw [hCX, hCY]; exact samecm_any (hx.c.bw s0.bel) (hy.c.bw s0.bel)
  have KM : Hid (∀ V, Below w0.heap.size w0 V → Calls Try.prog 37 #[.agg MX.toArray, .agg MY.toArray] V fun e w' => e = .returned (.bool true) ∧ Below V.heap.size V w') := fun V hV => by
    rw [hMX, hMY]; exact sameMail_any (hx.m.bw (bw_tr s0.bel hV)) (hy.m.bw (bw_tr s0.bel hV)) hs.m
  have hb := hs.b
  have he := fun W => equal_Notes W f.n0 f.n1 f.n2 f.n3 f.n4 (hb _ (by simp)) (hb _ (by simp)) (hb _ (by simp)) (hb _ (by simp)) (hb _ (by simp))
  have c0 : w0.cell? ⟨w.heap.size, 0, none⟩ = some (.int .u8 f.kd) := blk_c s0.k1 rfl
  have d0 : w0.cell? ⟨w.heap.size + 1, 0, none⟩ = some (.int .u8 f.kd) := blk_c s0.k2 rfl
  have c1 : w0.cell? ⟨w.heap.size, 1, none⟩ = some (.int .i64 f.tu) := blk_c s0.k1 rfl
  have d1 : w0.cell? ⟨w.heap.size + 1, 1, none⟩ = some (.int .i64 f.tu) := blk_c s0.k2 rfl
  have c2 : w0.cell? ⟨w.heap.size, 2, none⟩ = some (.int .i64 f.fr) := blk_c s0.k1 rfl
  have d2 : w0.cell? ⟨w.heap.size + 1, 2, none⟩ = some (.int .i64 f.fr) := blk_c s0.k2 rfl
  have c48 : w0.cell? ⟨w.heap.size, 48, none⟩ = some (.int .i64 f.n0) := blk_c s0.k1 rfl
  have d48 : w0.cell? ⟨w.heap.size + 1, 48, none⟩ = some (.int .i64 f.n0) := blk_c s0.k2 rfl
  have c49 : w0.cell? ⟨w.heap.size, 49, none⟩ = some (.int .i64 f.n1) := blk_c s0.k1 rfl
  have d49 : w0.cell? ⟨w.heap.size + 1, 49, none⟩ = some (.int .i64 f.n1) := blk_c s0.k2 rfl
  have c50 : w0.cell? ⟨w.heap.size, 50, none⟩ = some (.int .i64 f.n2) := blk_c s0.k1 rfl
  have d50 : w0.cell? ⟨w.heap.size + 1, 50, none⟩ = some (.int .i64 f.n2) := blk_c s0.k2 rfl
  have c51 : w0.cell? ⟨w.heap.size, 51, none⟩ = some (.int .i64 f.n3) := blk_c s0.k1 rfl
  have d51 : w0.cell? ⟨w.heap.size + 1, 51, none⟩ = some (.int .i64 f.n3) := blk_c s0.k2 rfl
  have c52 : w0.cell? ⟨w.heap.size, 52, none⟩ = some (.int .i64 f.n4) := blk_c s0.k1 rfl
  have d52 : w0.cell? ⟨w.heap.size + 1, 52, none⟩ = some (.int .i64 f.n4) := blk_c s0.k2 rfl
  obtain ⟨AX, hAX⟩ : ∃ z, z = (fdC f x).toArray := ⟨_, rfl⟩
  obtain ⟨AY, hAY⟩ : ∃ z, z = (fdC f y).toArray := ⟨_, rfl⟩
  have hw0' := hw0
  rw [← hAX, ← hAY] at hw0'
  rw [← hAX, ← hAY]
  have HW := hide hw0'
  have BL := hide s0.bel
  clear hx hy hs hw0 hw0' s0 hCX hCY hMX hMY part hb hAX hAY
  go_enter Try.func30, Try.ntmps30
  go_upto_region 1 with fail
  rw [← unhide HW]
  clear HW
  go_wp2_with (first | refine wpList_load_midG (by first | rfl | simp [Region.wanted, yielded]) 31 (.tmp 32) rfl w.heap.size 3 (by simp [Act.eval]) CX _ (unhide RCX) Try.underlying31 rfl (unhide HCX) ?_ | refine wpList_load_midG (by first | rfl | simp [Region.wanted, yielded]) 31 (.tmp 34) rfl (w.heap.size + 1) 3 (by simp [Act.eval]) CY _ (unhide RCY) Try.underlying31 rfl (unhide HCY) ?_)
  refine (unhide KC).mono ?_
  rintro e w1 ⟨rfl, b1⟩
  have RMX := hide (unhide RM w1 b1).1
  have RMY := hide (unhide RM w1 b1).2
  have KM1 := hide (unhide KM w1 b1)
  clear KC KM RCX RCY RM HCX HCY c0 d0 c1 d1 c2 d2 c48 d48 c49 d49 c50 d50 c51 d51 c52 d52
  go_wp2_with (first | refine wpList_load_midG (by first | rfl | simp [Region.wanted, yielded]) 40 (.tmp 39) rfl w.heap.size 18 (by simp [Act.eval]) MX _ (unhide RMX) Try.underlying40 rfl (unhide HMX) ?_ | refine wpList_load_midG (by first | rfl | simp [Region.wanted, yielded]) 40 (.tmp 41) rfl (w.heap.size + 1) 18 (by simp [Act.eval]) MY _ (unhide RMY) Try.underlying40 rfl (unhide HMY) ?_)
  refine (unhide KM1).mono ?_
  rintro e w2 ⟨rfl, b2⟩
  clear KM1 RMX RMY
  go_wp2_with fail
  go_ret
  exact ⟨rfl, bw_tr (bw_tr (unhide BL) b1) b2⟩
set_option maxRecDepth 100000 in
set_option maxHeartbeats 1000000 in
theorem samePt_any {w : World} {a : Pt} {x y : Fx} (hx : FdR w a.fd x) (hy : FdR w a.fd y) (hs : SmF a.fd) :
    Calls Try.prog 16 #[.agg (ptC a x).toArray, .agg (ptC a y).toArray] w fun e w' => e = .returned (.bool true) ∧ Below w.heap.size w w' := by
  obtain ⟨w0, hw0⟩ : ∃ w0, w0 = (w.alloc (.cells (ptC a x).toArray 44)).alloc (.cells (ptC a y).toArray 44) := ⟨_, rfl⟩
  have s0 : TwoB w w0 44 (ptC a x).toArray (ptC a y).toArray := by rw [hw0]; exact TwoB.start _ _ _ _
  obtain ⟨FX, hFX⟩ : ∃ z, z = fdC a.fd x := ⟨_, rfl⟩
  obtain ⟨FY, hFY⟩ : ∃ z, z = fdC a.fd y := ⟨_, rfl⟩
  have part : ∀ (z : Fx) (b : Nat), w0.heap[b]? = some (.cells (ptC a z).toArray 44 (0, 0)) → w0.rangeAt b 4 (fdC a.fd z) := fun z b k => blk_rngQ k (fun j u hj => by rw [show 4 + j = j + 1 + 1 + 1 + 1 by omega]; simpa [ptC] using hj)
  have RFX : Hid (w0.rangeAt w.heap.size 4 FX) := by rw [hFX]; exact part x _ s0.k1
  have RFY : Hid (w0.rangeAt (w.heap.size + 1) 4 FY) := by rw [hFY]; exact part y _ s0.k2
  have HFX : Hid ((Try.prog.info? 42).map (·.size) = some FX.length) := by rw [hFX]; exact infoFdS3
  have HFY : Hid ((Try.prog.info? 42).map (·.size) = some FY.length) := by rw [hFY]; exact infoFdS3
  have KC : Hid (Calls Try.prog 30 #[.agg FX.toArray, .agg FY.toArray] w0 fun e w' => e = .returned (.bool true) ∧ Below w0.heap.size w0 w') := by
    rw [hFX, hFY]; exact sameFd_any (hx.bw s0.bel) (hy.bw s0.bel) hs
  have c0 : w0.cell? ⟨w.heap.size, 0, none⟩ = some (.int .i64 a.fr) := blk_c s0.k1 rfl
  have d0 : w0.cell? ⟨w.heap.size + 1, 0, none⟩ = some (.int .i64 a.fr) := blk_c s0.k2 rfl
  have c1 : w0.cell? ⟨w.heap.size, 1, none⟩ = some (.int .i64 a.tu) := blk_c s0.k1 rfl
  have d1 : w0.cell? ⟨w.heap.size + 1, 1, none⟩ = some (.int .i64 a.tu) := blk_c s0.k2 rfl
  have c2 : w0.cell? ⟨w.heap.size, 2, none⟩ = some (.bool a.ack) := blk_c s0.k1 rfl
  have d2 : w0.cell? ⟨w.heap.size + 1, 2, none⟩ = some (.bool a.ack) := blk_c s0.k2 rfl
  have c3 : w0.cell? ⟨w.heap.size, 3, none⟩ = some (.int .i64 a.sq) := blk_c s0.k1 rfl
  have d3 : w0.cell? ⟨w.heap.size + 1, 3, none⟩ = some (.int .i64 a.sq) := blk_c s0.k2 rfl
  obtain ⟨AX, hAX⟩ : ∃ z, z = (ptC a x).toArray := ⟨_, rfl⟩
  obtain ⟨AY, hAY⟩ : ∃ z, z = (ptC a y).toArray := ⟨_, rfl⟩
  have hw0' := hw0
  rw [← hAX, ← hAY] at hw0'
  rw [← hAX, ← hAY]
  have HW := hide hw0'
  have BL := hide s0.bel
  clear hx hy hs hw0 hw0' s0 hFX hFY part hAX hAY
  go_enter Try.func16, Try.ntmps16
  go_upto_region 1 with fail
  rw [← unhide HW]
  clear HW
  go_wp2_with (first | refine wpList_load_midG (by first | rfl | simp [Region.wanted, yielded]) 42 (.tmp 32) rfl w.heap.size 4 (by simp [Act.eval]) FX _ (unhide RFX) Try.underlying42 rfl (unhide HFX) ?_ | refine wpList_load_midG (by first | rfl | simp [Region.wanted, yielded]) 42 (.tmp 34) rfl (w.heap.size + 1) 4 (by simp [Act.eval]) FY _ (unhide RFY) Try.underlying42 rfl (unhide HFY) ?_)
  refine (unhide KC).mono ?_
  rintro e w1 ⟨rfl, b1⟩
  clear KC RFX RFY HFX HFY c0 d0 c1 d1 c2 d2 c3 d3
  go_wp2_with fail
  go_ret
  exact ⟨rfl, bw_tr (unhide BL) b1⟩
end Go.Proofs.Ytndgdpefoidfbaa
