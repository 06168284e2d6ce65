/- Feeds, earlies, links, packets that read as the same are the same: SameFeed to SamePackets. mkQuSm.py writes it. -/
import Derived.Test.YtgiicendejgklaaZ29
import Derived.Deep.RegionHeld3
namespace Go.Proofs.Ytgiicendejgklaa
open Go.RowKit Go.Maps
set_option maxRecDepth 100000 in
set_option maxHeartbeats 1000000 in
theorem sameFd_any {w : World} {f : Fd} {x y : Fx} (hx : FdR w f x) (hy : FdR w f y) (hs : SmF f) :
    Calls Try.prog 49 #[.agg (fdC f x).toArray, .agg (fdC f y).toArray] w fun e w' => e = .returned (.bool true) ∧ Below w.heap.size w w' := by
  obtain ⟨w0, hw0⟩ : ∃ w0, w0 = (w.alloc (.cells (fdC f x).toArray 43)).alloc (.cells (fdC f y).toArray 43) := ⟨_, rfl⟩
  have s0 : TwoB w w0 43 (fdC f x).toArray (fdC f y).toArray := by rw [hw0]; exact TwoB.start _ _ _ _
  obtain ⟨CX, hCX⟩ : ∃ z, z = cmC f.cm x.cx := ⟨_, rfl⟩
  obtain ⟨CY, hCY⟩ : ∃ z, z = cmC f.cm y.cx := ⟨_, rfl⟩
  obtain ⟨MX, hMX⟩ : ∃ z, z = mlC f.ml x.mx := ⟨_, rfl⟩
  obtain ⟨MY, hMY⟩ : ∃ z, z = mlC f.ml y.mx := ⟨_, rfl⟩
  have part : ∀ (z : Fx) (b : Nat), w0.heap[b]? = some (.cells (fdC f z).toArray 43 (0, 0)) → w0.rangeAt b 3 (cmC f.cm z.cx) ∧ w0.rangeAt b 18 (mlC f.ml z.mx) := fun z b k => by
    refine ⟨blk_rngQ k (fun j u hj => ?_), blk_rngQ k (fun j u hj => ?_)⟩
    · have : (fdC f z)[3 + j]? = some u := by
        unfold fdC
        rw [show 3 + j = j + 1 + 1 + 1 by omega, List.getElem?_cons_succ, List.getElem?_cons_succ, List.getElem?_cons_succ, List.getElem?_append_left (by exact (List.getElem?_eq_some_iff.1 hj).1)]
        exact hj
      simpa using this
    · have : (fdC f z)[18 + j]? = some u := by
        unfold fdC
        have hl : (cmC f.cm z.cx).length = 15 := rfl
        rw [show 18 + j = (15 + j) + 1 + 1 + 1 by omega, List.getElem?_cons_succ, List.getElem?_cons_succ, List.getElem?_cons_succ, List.getElem?_append_right (by rw [hl]; omega), hl, show 15 + j - 15 = j by omega, List.getElem?_append_left (by exact (List.getElem?_eq_some_iff.1 hj).1)]
        exact hj
      simpa using this
  have RCX : Hid (w0.rangeAt w.heap.size 3 CX) := by rw [hCX]; exact (part x _ s0.k1).1
  have RCY : Hid (w0.rangeAt (w.heap.size + 1) 3 CY) := by rw [hCY]; exact (part y _ s0.k2).1
  have RM : Hid (∀ V, Below w0.heap.size w0 V → V.rangeAt w.heap.size 18 MX ∧ V.rangeAt (w.heap.size + 1) 18 MY) := fun V hV => by rw [hMX, hMY]; exact ⟨rng_bw (part x _ s0.k1).2 hV, rng_bw (part y _ s0.k2).2 hV⟩
  have HCX : Hid ((Try.prog.info? 32).map (·.size) = some CX.length) := by rw [hCX]; exact infoCmS17
  have HCY : Hid ((Try.prog.info? 32).map (·.size) = some CY.length) := by rw [hCY]; exact infoCmS17
  have HMX : Hid ((Try.prog.info? 41).map (·.size) = some MX.length) := by rw [hMX]; exact infoMlS17
  have HMY : Hid ((Try.prog.info? 41).map (·.size) = some MY.length) := by rw [hMY]; exact infoMlS17
  have KC : Hid (Calls Try.prog 67 #[.agg CX.toArray, .agg CY.toArray] w0 fun e w' => e = .returned (.bool true) ∧ Below w0.heap.size w0 w') := by
    rw [hCX, hCY]; exact samecm_any (hx.c.bw s0.bel) (hy.c.bw s0.bel)
  have KM : Hid (∀ V, Below w0.heap.size w0 V → Calls Try.prog 68 #[.agg MX.toArray, .agg MY.toArray] V fun e w' => e = .returned (.bool true) ∧ Below V.heap.size V w') := fun V hV => by
    rw [hMX, hMY]; exact sameMail_any (hx.m.bw (bw_tr s0.bel hV)) (hy.m.bw (bw_tr s0.bel hV)) hs.m
  have hb := hs.b
  have he := fun W => equal_Notes W f.n0 f.n1 f.n2 f.n3 f.n4 (hb _ (by simp)) (hb _ (by simp)) (hb _ (by simp)) (hb _ (by simp)) (hb _ (by simp))
  have c0 : w0.cell? ⟨w.heap.size, 0, none⟩ = some (.int .u8 f.kd) := blk_c s0.k1 rfl
  have d0 : w0.cell? ⟨w.heap.size + 1, 0, none⟩ = some (.int .u8 f.kd) := blk_c s0.k2 rfl
  have c1 : w0.cell? ⟨w.heap.size, 1, none⟩ = some (.int .i64 f.tu) := blk_c s0.k1 rfl
  have d1 : w0.cell? ⟨w.heap.size + 1, 1, none⟩ = some (.int .i64 f.tu) := blk_c s0.k2 rfl
  have c2 : w0.cell? ⟨w.heap.size, 2, none⟩ = some (.int .i64 f.fr) := blk_c s0.k1 rfl
  have d2 : w0.cell? ⟨w.heap.size + 1, 2, none⟩ = some (.int .i64 f.fr) := blk_c s0.k2 rfl
  have c48 : w0.cell? ⟨w.heap.size, 48, none⟩ = some (.int .i64 f.n0) := blk_c s0.k1 rfl
  have d48 : w0.cell? ⟨w.heap.size + 1, 48, none⟩ = some (.int .i64 f.n0) := blk_c s0.k2 rfl
  have c49 : w0.cell? ⟨w.heap.size, 49, none⟩ = some (.int .i64 f.n1) := blk_c s0.k1 rfl
  have d49 : w0.cell? ⟨w.heap.size + 1, 49, none⟩ = some (.int .i64 f.n1) := blk_c s0.k2 rfl
  have c50 : w0.cell? ⟨w.heap.size, 50, none⟩ = some (.int .i64 f.n2) := blk_c s0.k1 rfl
  have d50 : w0.cell? ⟨w.heap.size + 1, 50, none⟩ = some (.int .i64 f.n2) := blk_c s0.k2 rfl
  have c51 : w0.cell? ⟨w.heap.size, 51, none⟩ = some (.int .i64 f.n3) := blk_c s0.k1 rfl
  have d51 : w0.cell? ⟨w.heap.size + 1, 51, none⟩ = some (.int .i64 f.n3) := blk_c s0.k2 rfl
  have c52 : w0.cell? ⟨w.heap.size, 52, none⟩ = some (.int .i64 f.n4) := blk_c s0.k1 rfl
  have d52 : w0.cell? ⟨w.heap.size + 1, 52, none⟩ = some (.int .i64 f.n4) := blk_c s0.k2 rfl
  obtain ⟨AX, hAX⟩ : ∃ z, z = (fdC f x).toArray := ⟨_, rfl⟩
  obtain ⟨AY, hAY⟩ : ∃ z, z = (fdC f y).toArray := ⟨_, rfl⟩
  have hw0' := hw0
  rw [← hAX, ← hAY] at hw0'
  rw [← hAX, ← hAY]
  have HW := hide hw0'
  have BL := hide s0.bel
  clear hx hy hs hw0 hw0' s0 hCX hCY hMX hMY part hb hAX hAY
  go_enter Try.func49, Try.ntmps49
  go_upto_region 1 with fail
  rw [← unhide HW]
  clear HW
  go_wp2_with (first | refine wpList_load_midG (by first | rfl | simp [Region.wanted, yielded]) 32 (.tmp 32) rfl w.heap.size 3 (by simp [Act.eval]) CX _ (unhide RCX) Try.underlying32 rfl (unhide HCX) ?_ | refine wpList_load_midG (by first | rfl | simp [Region.wanted, yielded]) 32 (.tmp 34) rfl (w.heap.size + 1) 3 (by simp [Act.eval]) CY _ (unhide RCY) Try.underlying32 rfl (unhide HCY) ?_)
  refine (unhide KC).mono ?_
  rintro e w1 ⟨rfl, b1⟩
  have RMX := hide (unhide RM w1 b1).1
  have RMY := hide (unhide RM w1 b1).2
  have KM1 := hide (unhide KM w1 b1)
  clear KC KM RCX RCY RM HCX HCY c0 d0 c1 d1 c2 d2 c48 d48 c49 d49 c50 d50 c51 d51 c52 d52
  go_wp2_with (first | refine wpList_load_midG (by first | rfl | simp [Region.wanted, yielded]) 41 (.tmp 39) rfl w.heap.size 18 (by simp [Act.eval]) MX _ (unhide RMX) Try.underlying41 rfl (unhide HMX) ?_ | refine wpList_load_midG (by first | rfl | simp [Region.wanted, yielded]) 41 (.tmp 41) rfl (w.heap.size + 1) 18 (by simp [Act.eval]) MY _ (unhide RMY) Try.underlying41 rfl (unhide HMY) ?_)
  refine (unhide KM1).mono ?_
  rintro e w2 ⟨rfl, b2⟩
  clear KM1 RMX RMY
  go_wp2_with fail
  go_ret
  exact ⟨rfl, bw_tr (bw_tr (unhide BL) b1) b2⟩
set_option maxRecDepth 100000 in
set_option maxHeartbeats 1000000 in
theorem samePt_any {w : World} {a : Pt} {x y : Fx} (hx : FdR w a.fd x) (hy : FdR w a.fd y) (hs : SmF a.fd) :
    Calls Try.prog 32 #[.agg (ptC a x).toArray, .agg (ptC a y).toArray] w fun e w' => e = .returned (.bool true) ∧ Below w.heap.size w w' := by
  obtain ⟨w0, hw0⟩ : ∃ w0, w0 = (w.alloc (.cells (ptC a x).toArray 45)).alloc (.cells (ptC a y).toArray 45) := ⟨_, rfl⟩
  have s0 : TwoB w w0 45 (ptC a x).toArray (ptC a y).toArray := by rw [hw0]; exact TwoB.start _ _ _ _
  obtain ⟨FX, hFX⟩ : ∃ z, z = fdC a.fd x := ⟨_, rfl⟩
  obtain ⟨FY, hFY⟩ : ∃ z, z = fdC a.fd y := ⟨_, rfl⟩
  have part : ∀ (z : Fx) (b : Nat), w0.heap[b]? = some (.cells (ptC a z).toArray 45 (0, 0)) → w0.rangeAt b 4 (fdC a.fd z) := fun z b k => blk_rngQ k (fun j u hj => by rw [show 4 + j = j + 1 + 1 + 1 + 1 by omega]; simpa [ptC] using hj)
  have RFX : Hid (w0.rangeAt w.heap.size 4 FX) := by rw [hFX]; exact part x _ s0.k1
  have RFY : Hid (w0.rangeAt (w.heap.size + 1) 4 FY) := by rw [hFY]; exact part y _ s0.k2
  have HFX : Hid ((Try.prog.info? 43).map (·.size) = some FX.length) := by rw [hFX]; exact infoFdS3
  have HFY : Hid ((Try.prog.info? 43).map (·.size) = some FY.length) := by rw [hFY]; exact infoFdS3
  have KC : Hid (Calls Try.prog 49 #[.agg FX.toArray, .agg FY.toArray] w0 fun e w' => e = .returned (.bool true) ∧ Below w0.heap.size w0 w') := by
    rw [hFX, hFY]; exact sameFd_any (hx.bw s0.bel) (hy.bw s0.bel) hs
  have c0 : w0.cell? ⟨w.heap.size, 0, none⟩ = some (.int .i64 a.fr) := blk_c s0.k1 rfl
  have d0 : w0.cell? ⟨w.heap.size + 1, 0, none⟩ = some (.int .i64 a.fr) := blk_c s0.k2 rfl
  have c1 : w0.cell? ⟨w.heap.size, 1, none⟩ = some (.int .i64 a.tu) := blk_c s0.k1 rfl
  have d1 : w0.cell? ⟨w.heap.size + 1, 1, none⟩ = some (.int .i64 a.tu) := blk_c s0.k2 rfl
  have c2 : w0.cell? ⟨w.heap.size, 2, none⟩ = some (.bool a.ack) := blk_c s0.k1 rfl
  have d2 : w0.cell? ⟨w.heap.size + 1, 2, none⟩ = some (.bool a.ack) := blk_c s0.k2 rfl
  have c3 : w0.cell? ⟨w.heap.size, 3, none⟩ = some (.int .i64 a.sq) := blk_c s0.k1 rfl
  have d3 : w0.cell? ⟨w.heap.size + 1, 3, none⟩ = some (.int .i64 a.sq) := blk_c s0.k2 rfl
  obtain ⟨AX, hAX⟩ : ∃ z, z = (ptC a x).toArray := ⟨_, rfl⟩
  obtain ⟨AY, hAY⟩ : ∃ z, z = (ptC a y).toArray := ⟨_, rfl⟩
  have hw0' := hw0
  rw [← hAX, ← hAY] at hw0'
  rw [← hAX, ← hAY]
  have HW := hide hw0'
  have BL := hide s0.bel
  clear hx hy hs hw0 hw0' s0 hFX hFY part hAX hAY
  go_enter Try.func32, Try.ntmps32
  go_upto_region 1 with fail
  rw [← unhide HW]
  clear HW
  go_wp2_with (first | refine wpList_load_midG (by first | rfl | simp [Region.wanted, yielded]) 43 (.tmp 32) rfl w.heap.size 4 (by simp [Act.eval]) FX _ (unhide RFX) Try.underlying43 rfl (unhide HFX) ?_ | refine wpList_load_midG (by first | rfl | simp [Region.wanted, yielded]) 43 (.tmp 34) rfl (w.heap.size + 1) 4 (by simp [Act.eval]) FY _ (unhide RFY) Try.underlying43 rfl (unhide HFY) ?_)
  refine (unhide KC).mono ?_
  rintro e w1 ⟨rfl, b1⟩
  clear KC RFX RFY HFX HFY c0 d0 c1 d1 c2 d2 c3 d3
  go_wp2_with fail
  go_ret
  exact ⟨rfl, bw_tr (unhide BL) b1⟩
set_option maxRecDepth 100000 in
set_option maxHeartbeats 1000000 in
theorem samePts_any {w : World} {va vb : Value} {l : List Pt} {xs ys : List Fx} (ha : RdL kPk w va l xs) (hb : RdL kPk w vb l ys) (hl : l.length ≤ 140737488355328) :
    Calls Try.prog 18 #[va, vb] w fun e w' => e = .returned (.bool true) ∧ Below w.heap.size w w' := by
  obtain ⟨a, ca, rfl⟩ := rdl_slice ha
  obtain ⟨b, cb, rfl⟩ := rdl_slice hb
  obtain ⟨N, hN⟩ : ∃ N, N = l.length := ⟨_, rfl⟩
  rw [← hN] at ha hb hl ⊢
  have hNb : (N : Int) ≤ 140737488355328 := by omega
  have HH := hide (And.intro ha (And.intro hb hN))
  clear ha hb hN hl
  go_enter Try.func18, Try.ntmps18
  go_wp2_with fail
  go_loopw [13] (fun iv wr => ∃ i : Nat, iv = .int .i64 i ∧ i ≤ N ∧ Hid (Below w.heap.size w wr)) (fun iv _ => (N - (intOf iv)).toNat)
  case atStart => exact ⟨0, rfl, by omega, Below.refl _ _⟩
  case round =>
    obtain ⟨i, rfl, hi, hbel⟩ := hrel
    by_cases hin : i < N
    · obtain ⟨ha, hb, hN⟩ := unhide HH
      have bd : Below wr.heap.size wr wr.drew := (Below.refl _ _).drew
      obtain ⟨m, x, g, o, rfl, hm, _, hR1, r1⟩ := rdl_at (ha.bw (bw_tr (unhide hbel) bd)) (i := i) (by omega)
      obtain ⟨m2, y, g', o', rfl, hm2, _, hR2, r2⟩ := rdl_at (hb.bw (bw_tr (unhide hbel) bd)) (i := i) (by omega)
      have hmm : m2 = m := by rw [hm] at hm2; exact (Option.some.inj hm2).symm
      subst hmm
      have KS := hide (samePt_any hR1.1 hR2.1 hR1.2)
      obtain ⟨CX, hCX⟩ : ∃ z, z = ptC m2 x := ⟨_, rfl⟩
      obtain ⟨CY, hCY⟩ : ∃ z, z = ptC m2 y := ⟨_, rfl⟩
      have r1 : wr.drew.rangeAt g (o + i * 57) CX := by rw [hCX]; exact r1
      have r2 : wr.drew.rangeAt g' (o' + i * 57) CY := by rw [hCY]; exact r2
      have HICX : Hid ((Try.prog.info? 45).map (·.size) = some CX.length) := by rw [hCX]; exact infoPkS
      have HICY : Hid ((Try.prog.info? 45).map (·.size) = some CY.length) := by rw [hCY]; exact infoPkS
      rw [← hCX, ← hCY] at KS
      have HBD := hide (bw_tr (unhide hbel) bd)
      have S0 : wr.drew.rangeAt g (o + i * 57) CX ∧ wr.drew.rangeAt g' (o' + i * 57) CY := ⟨r1, r2⟩
      have HK : Hid (∀ W, Below wr.drew.heap.size wr.drew W → W.rangeAt g (o + i * 57) CX ∧ W.rangeAt g' (o' + i * 57) CY) := fun W hW => ⟨rng_bw r1 hW, rng_bw r2 hW⟩
      have hiI : (i : Int) < (N : Int) := by omega
      have h0 : (0 : Int) ≤ (i : Int) := by omega
      clear hCX hCY r1 r2 hR1 hR2 ha hb hN hm hm2 bd
      go_upto_region 6 with fail
      refine wp_region_held_drew (S := fun w' : World => (w').rangeAt g (o + i * 57) CX ∧ (w').rangeAt g' (o' + i * 57) CY) (by kernel_rfl) S0 (fun hHeld => ?_)
      refine wpAnyH_take (i := 0) (oi := { dst := some 16, op := Op.move (Operand.tmp 0), type := 53, pos := "twin.go:1493", after := #[], guard := none }) (v := ?v0r4) rfl (by kernel_rfl) (by kernel_rfl) (by kernel_rfl) (fun _ _ _ h => h) (Or.inl ⟨by rfl, ?hy0r4⟩) (by exact hHeld) ?_
      case hy0r4 => (intro w hSw; (try dsimp only at hSw); go_simp; try (with_reducible rfl))
      try simp only [Act.put, List.setIfInBounds_toArray, List.set_cons_zero, List.set_cons_succ]
      refine wpAnyH_take (i := 1) (oi := { dst := some 17, op := Op.move (Operand.tmp 5), type := 3, pos := "twin.go:1493", after := #[], guard := none }) (v := ?v1r4) rfl (by kernel_rfl) (by kernel_rfl) (by kernel_rfl) (fun _ _ _ h => h) (Or.inl ⟨by rfl, ?hy1r4⟩) (by exact hHeld) ?_
      case hy1r4 => (intro w hSw; (try dsimp only at hSw); go_simp; try (with_reducible rfl))
      try simp only [Act.put, List.setIfInBounds_toArray, List.set_cons_zero, List.set_cons_succ]
      refine wpAnyH_take (i := 2) (oi := { dst := some 18, op := Op.indexAddr 53 (Operand.tmp 16) (Operand.tmp 17), type := 0, pos := "twin.go:1493", after := #[{ on := 0, ground := Ground.data }, { on := 1, ground := Ground.data }], guard := none }) (v := ?v2r4) rfl (by kernel_rfl) (by kernel_rfl) (by kernel_rfl) (fun _ _ _ h => h) (Or.inl ⟨by rfl, ?hy2r4⟩) (by exact hHeld) ?_
      case hy2r4 => (intro w hSw; (try dsimp only at hSw); go_simp; try (with_reducible rfl))
      try simp only [Act.put, List.setIfInBounds_toArray, List.set_cons_zero, List.set_cons_succ]
      refine wpAnyH_take (i := 3) (oi := { dst := some 19, op := Op.load 45 (Operand.tmp 18), type := 45, pos := "twin.go:1493", after := #[{ on := 2, ground := Ground.data }], guard := none }) (v := .agg CX.toArray) rfl (by kernel_rfl) (by kernel_rfl) (by kernel_rfl) (fun _ _ _ h => h) (yieldsIf_load_mid (by rfl) 45 (.tmp 18) rfl g (o + i * 57) (by simp [Act.eval]) CX _ (fun w h => h.1) Try.underlying45 rfl (unhide HICX)) (by exact hHeld) ?_
      try simp only [Act.put, List.setIfInBounds_toArray, List.set_cons_zero, List.set_cons_succ]
      refine wpAnyH_take (i := 4) (oi := { dst := some 20, op := Op.move (Operand.tmp 1), type := 53, pos := "twin.go:1493", after := #[], guard := none }) (v := ?v4r4) rfl (by kernel_rfl) (by kernel_rfl) (by kernel_rfl) (fun _ _ _ h => h) (Or.inl ⟨by rfl, ?hy4r4⟩) (by exact hHeld) ?_
      case hy4r4 => (intro w hSw; (try dsimp only at hSw); go_simp; try (with_reducible rfl))
      try simp only [Act.put, List.setIfInBounds_toArray, List.set_cons_zero, List.set_cons_succ]
      refine wpAnyH_take (i := 5) (oi := { dst := some 21, op := Op.move (Operand.tmp 5), type := 3, pos := "twin.go:1493", after := #[], guard := none }) (v := ?v5r4) rfl (by kernel_rfl) (by kernel_rfl) (by kernel_rfl) (fun _ _ _ h => h) (Or.inl ⟨by rfl, ?hy5r4⟩) (by exact hHeld) ?_
      case hy5r4 => (intro w hSw; (try dsimp only at hSw); go_simp; try (with_reducible rfl))
      try simp only [Act.put, List.setIfInBounds_toArray, List.set_cons_zero, List.set_cons_succ]
      refine wpAnyH_take (i := 6) (oi := { dst := some 22, op := Op.indexAddr 53 (Operand.tmp 20) (Operand.tmp 21), type := 0, pos := "twin.go:1493", after := #[{ on := 4, ground := Ground.data }, { on := 5, ground := Ground.data }], guard := none }) (v := ?v6r4) rfl (by kernel_rfl) (by kernel_rfl) (by kernel_rfl) (fun _ _ _ h => h) (Or.inl ⟨by rfl, ?hy6r4⟩) (by exact hHeld) ?_
      case hy6r4 => (intro w hSw; (try dsimp only at hSw); go_simp; try (with_reducible rfl))
      try simp only [Act.put, List.setIfInBounds_toArray, List.set_cons_zero, List.set_cons_succ]
      refine wpAnyH_take (i := 7) (oi := { dst := some 23, op := Op.load 45 (Operand.tmp 22), type := 45, pos := "twin.go:1493", after := #[{ on := 6, ground := Ground.data }], guard := none }) (v := .agg CY.toArray) rfl (by kernel_rfl) (by kernel_rfl) (by kernel_rfl) (fun _ _ _ h => h) (yieldsIf_load_mid (by rfl) 45 (.tmp 22) rfl g' (o' + i * 57) (by simp [Act.eval]) CY _ (fun w h => h.2) Try.underlying45 rfl (unhide HICY)) (by exact hHeld) ?_
      try simp only [Act.put, List.setIfInBounds_toArray, List.set_cons_zero, List.set_cons_succ]
      refine wpAnyH_ready (rs := [8]) (by kernel_rfl) (by simp) ?_
      refine AllReadyH.cons (o := { dst := some 24, op := Op.call { callee := Callee.value (Operand.func 32), args := #[Operand.tmp 19, Operand.tmp 23], argTypes := #[45, 45] }, type := 4, pos := "twin.go:1493", after := #[{ on := 3, ground := Ground.data }, { on := 7, ground := Ground.data }], guard := none }) rfl (fun K hK => ?_) AllReadyH.nil
      go_simp
      go_at_call 32
      refine (unhide KS).mono ?_
      rintro e_ z1 ⟨rfl, b1⟩
      have S1 := unhide HK z1 b1
      have B1 := hide (bw_tr (unhide HBD) b1)
      go_wp2_with fail
      refine hK.out _ _ S1 (fun _ => ?_)
      clear hK K
      try simp only [Act.put, List.setIfInBounds_toArray, List.set_cons_zero, List.set_cons_succ]
      refine wpAnyH_take (i := 9) (oi := { dst := some 25, op := Op.unOp UnOp.not 4 (Operand.tmp 24), type := 4, pos := "twin.go:1493", after := #[{ on := 8, ground := Ground.data }], guard := none }) (v := ?v9r4) rfl (by kernel_rfl) (by kernel_rfl) (by kernel_rfl) (fun _ _ _ h => h) (Or.inl ⟨by rfl, ?hy9r4⟩) (by exact S1) ?_
      case hy9r4 => (intro w hSw; (try dsimp only at hSw); go_simp; try (with_reducible rfl))
      try simp only [Act.put, List.setIfInBounds_toArray, List.set_cons_zero, List.set_cons_succ]
      refine wpAnyH_done (by kernel_rfl) ?_ _
      clear S0 S1 b1 HICX HICY KS HK HBD
      go_wp2_with fail
      go_roundw
      case rel => exact ⟨i + 1, by go_num, by omega, B1⟩
      case measure => simp only [intOf]; omega
    · obtain rfl : i = N := by omega
      have hni : ¬ (i : Int) < (i : Int) := by omega
      go_wp2_with fail
      go_ret
      exact ⟨rfl, unhide hbel⟩
end Go.Proofs.Ytgiicendejgklaa
