/- Texts joined: QuT QuY. -/
import Derived.Test.YtgiicendejgklaaQuGm
/- Does a link take what has such a number (wanted). mkQuT.py writes it. -/
namespace Go.Proofs.Ytgiicendejgklaa
open Go.RowKit Go.Maps
def WantP (l : Lk) (s : Int) : Prop := s = l.ex ∨ (l.ex < s ∧ s - l.ex ≤ 1024 ∧ l.ea.length ≠ 1024 ∧ ∀ (i : Nat) e, l.ea[i]? = some e → e.sq ≠ s)
set_option maxRecDepth 100000 in
set_option maxHeartbeats 8000000 in
theorem wanted_any {w : World} {l : Lk} {x : Lx} (h : LkR w l x) (hq : l.ea.length ≤ 1024) (hx0 : 0 ≤ l.ex) (hx1 : l.ex ≤ 1099511627776) {s : Int} (hs0 : 0 ≤ s) (hs1 : s < 1099511627776) {b : Bool} (hb : b = true ↔ WantP l s) :
    Calls Try.prog 42 #[.agg (lkC l x.qv x.ev).toArray, .int .i64 s] w fun e w' => e = .returned (.bool b) ∧ Below w.heap.size w w' := by
  have hqs := rdl_slice h.q
  have hes := rdl_slice h.e
  obtain ⟨qv, qx, ev, exx⟩ := x
  simp only at hqs hes ⊢
  obtain ⟨aq, cq, rfl⟩ := hqs
  obtain ⟨ae, ce, rfl⟩ := hes
  obtain ⟨pe, nx, q, exn, ea⟩ := l
  obtain ⟨NQ, hNQ⟩ : ∃ z, z = q.length := ⟨_, rfl⟩
  obtain ⟨NE, hNE⟩ : ∃ z, z = ea.length := ⟨_, rfl⟩
  unfold lkC
  simp only at h hb hNQ hNE hx0 hx1 hq ⊢
  rw [← hNQ, ← hNE] at h ⊢
  obtain ⟨w0, hw0⟩ : ∃ w0, w0 = w.alloc (.cells #[.int .i64 pe, .int .i64 nx, .slice aq NQ cq, .int .i64 exn, .slice ae NE ce] 73) := ⟨_, rfl⟩
  have bl : Below w.heap.size w w0 := by rw [hw0]; exact bwA _ _
  have kk : w0.heap[w.heap.size]? = some (.cells #[.int .i64 pe, .int .i64 nx, .slice aq NQ cq, .int .i64 exn, .slice ae NE ce] 73 (0, 0)) := by rw [hw0]; exact heap_alloc_new _ _
  have hqI : (NE : Int) ≤ 1024 := by omega
  have y3 : w0.cell? ⟨w.heap.size, 3, none⟩ = some (.int .i64 exn) := blk_c kk rfl
  have y4 : w0.cell? ⟨w.heap.size, 4, none⟩ = some (.slice ae NE ce) := blk_c kk rfl
  have HQ : Hid (∀ i, i < NE → ∃ f cs g o, ea[i]? = some f ∧ ae = some ⟨g, o, none⟩ ∧ (∃ y, cs = erC f y) ∧ Hid (∀ u ∈ cs, u.oneCell' = true) ∧ ∀ W, Below w0.heap.size w0 W → W.rangeAt g (o + i * 54) cs) := fun i hi => by
    obtain ⟨f, hf⟩ : ∃ f, ea[i]? = some f := ⟨_, List.getElem?_eq_getElem (by omega)⟩
    obtain ⟨g, o, y, e, _, hR, hc⟩ := h.e.get hf
    exact ⟨f, _, g, o, hf, e, ⟨y, rfl⟩, er_one hR.1, fun W hW => rng_bw (fun j u hj => hc j u hj) (bw_tr bl hW)⟩
  have HF : Hid (∀ (i : Nat) f, ea[i]? = some f → f.sq = s → s ≠ exn → b = false) := fun i f hf he hn => false_iff hb (fun hp => hp.elim hn (fun c => c.2.2.2 i f hf he))
  have HG : Hid ((∀ (i : Nat) f, i < NE → ea[i]? = some f → f.sq ≠ s) → exn < s → s - exn ≤ 1024 → NE ≠ 1024 → b = true) := fun h4 h1 h2 h3 => hb.2 (Or.inr ⟨h1, h2, by simp only; omega, fun i f hi => h4 i f (by have hh : i < ea.length := (List.getElem?_eq_some_iff.1 hi).1; omega) hi⟩)
  have HX : Hid (s ≠ exn → ¬ (exn < s ∧ s - exn ≤ 1024 ∧ NE ≠ 1024) → b = false) := fun h0 hn => false_iff hb (fun hp => hp.elim h0 (fun c => hn ⟨c.1, c.2.1, by have := c.2.2.1; simp only at this; omega⟩))
  have HY : Hid (s = exn → b = true) := fun h0 => hb.2 (Or.inl h0)
  have HW := hide hw0
  have HBL := hide bl
  clear h hq hb bl kk hw0 hNQ hNE
  by_cases c1 : s = exn
  · have hb := unhide HY c1
    subst hb
    clear HX HG HF HQ HY
    go_enter Try.func42, Try.ntmps42
    go_upto_region 1 with fail
    rw [← unhide HW]
    go_wp2_with fail
    go_ret
    exact ⟨rfl, unhide HBL⟩
  · by_cases c2 : s < exn
    · have hb := unhide HX c1 (fun c => by omega)
      subst hb
      clear HX HG HF HQ HY
      go_enter Try.func42, Try.ntmps42
      go_upto_region 1 with fail
      rw [← unhide HW]
      go_wp2_with fail
      go_ret
      exact ⟨rfl, unhide HBL⟩
    · have c2' : exn < s := by omega
      by_cases c3 : 1024 < s - exn
      · have hb := unhide HX c1 (fun c => by omega)
        subst hb
        clear HX HG HF HQ HY
        go_enter Try.func42, Try.ntmps42
        go_upto_region 1 with fail
        rw [← unhide HW]
        go_wp2_with fail
        go_ret
        exact ⟨rfl, unhide HBL⟩
      · by_cases c4 : NE = 1024
        · have hb := unhide HX c1 (fun c => c.2.2 c4)
          subst hb c4
          clear HX HG HF HQ HY
          go_enter Try.func42, Try.ntmps42
          go_upto_region 1 with fail
          rw [← unhide HW]
          go_wp2_with fail
          go_ret
          exact ⟨rfl, unhide HBL⟩
        · clear HX HY
          have c5 : (NE : Int) ≠ 1024 := by omega
          go_enter Try.func42, Try.ntmps42
          go_upto_region 1 with fail
          rw [← unhide HW]
          clear HW
          go_wp2_with fail
          clear y3 y4
          go_loopw [31] (fun iv wr => ∃ (i : Nat), i ≤ NE ∧ iv = .int .i64 (i : Int) ∧ Hid (Below w0.heap.size w0 wr ∧ ∀ (j : Nat) f, j < i → ea[j]? = some f → f.sq ≠ s)) (fun iv _ => (NE - intOf iv).toNat)
          case atStart => exact ⟨0, Nat.zero_le _, rfl, Below.refl _ _, fun j f hj => absurd hj (by omega)⟩
          case round =>
            obtain ⟨i, hi, rfl, HR⟩ := hrel
            by_cases hlt : i < NE
            · obtain ⟨f, cs, g, o, hf, rfl, hcs, hone, hrg⟩ := unhide HQ i hlt
              have hiI : (i : Int) < (NE : Int) := by omega
              have h0 : (0 : Int) ≤ (i : Int) := by omega
              obtain ⟨yx, hcs⟩ := hcs
              obtain ⟨sq, hsq⟩ : ∃ z, z = f.sq := ⟨_, rfl⟩
              have hce : ∃ fc, cs = .int .i64 sq :: fc := ⟨fdC f.fd yx, by rw [hcs, hsq]; rfl⟩
              have hcl : cs.length = 54 := by rw [hcs]; rfl
              have z1 : (Try.prog.info? 87).map (·.size) = some cs.length := by rw [hcl]; exact infoErS2
              have z2 : (Try.prog.info? 87).map (·.size) = some cs.toArray.size := by rw [List.size_toArray, hcl]; exact infoErS2
              have z3 : er0.size = cs.toArray.size := by
                have q_ : cs.toArray.size = 54 := by simpa using hcl
                rw [q_]; rfl
              have HZ := hide (And.intro (hrg wr (unhide HR).1) (And.intro z1 (And.intro z2 z3)))
              have HO := hone
              have HFF := hide hf
              have HSQ := hide hsq
              have HCE := hide hce
              clear hrg z1 z2 z3 hcl hcs hf hce hone hsq
              go_upto_region 8 with (first | refine wpList_load_mid rfl 87 (.tmp 33) rfl g (o + i * 54) (by simp [Act.eval]) cs _ (unhide HZ).1 Try.underlying87 rfl (unhide HZ).2.1 ?_ | refine wpList_store_row rfl 87 (.tmp 6) (.tmp 34) rfl wr.heap.size cs.toArray rfl rfl 87 er0 (heap_alloc_new _ _) (unhide HZ).2.2.1 (unhide HZ).2.2.2 (all_oneCell_toArray (unhide HO)) ?_)
              generalize hW : World.setRow (wr.alloc _) wr.heap.size cs.toArray = W2
              have g0 : W2.heap[wr.heap.size]? = some (.cells cs.toArray 87 (0, 0)) := by rw [← hW]; exact setRow_heap _ _ _ _ _ _ (heap_alloc_new _ _)
              have g1 : Below wr.heap.size wr W2 := by rw [← hW]; exact below_setRow' (bwA _ _) (Nat.le_refl _) _
              clear hW
              have s0 : W2.cell? ⟨wr.heap.size, 0, none⟩ = some (.int .i64 sq) := by
                obtain ⟨fc, e⟩ := unhide HCE
                rw [e] at g0
                exact blk_c g0 rfl
              have HG2 := hide (bw_tr (unhide HR).1 g1)
              clear g0 g1 HCE HZ HO
              by_cases k1 : sq = s
              · have hb := unhide HF i f (unhide HFF) (by rw [← unhide HSQ]; exact k1) c1
                have HBZ := hide (bw_tr (unhide HBL) (unhide HG2))
                subst hb
                clear HF HG
                go_wp2_with fail
                go_ret
                exact ⟨rfl, unhide HBZ⟩
              · have HNX : Hid (Below w0.heap.size w0 W2 ∧ ∀ (j : Nat) f, j < i + 1 → ea[j]? = some f → f.sq ≠ s) := by
                  refine ⟨unhide HG2, fun j f' hj hf' => ?_⟩
                  rcases Nat.lt_or_ge j i with d | d
                  · exact (unhide HR).2 j f' d hf'
                  · obtain rfl : j = i := by omega
                    rw [unhide HFF] at hf'; cases hf'
                    rw [← unhide HSQ]
                    exact k1
                clear HF HG
                go_wp2_with fail
                go_roundw
                case rel => exact ⟨i + 1, by omega, by go_num, HNX⟩
                case measure => simp only [intOf]; omega
            · obtain rfl : i = NE := by omega
              have hb := unhide HG (unhide HR).2 c2' (by omega) c4
              subst hb
              have HBZ := hide (bw_tr (unhide HBL) (unhide HR).1)
              clear HR HF HG
              go_wp2_with fail
              go_ret
              exact ⟨rfl, unhide HBZ⟩
end Go.Proofs.Ytgiicendejgklaa

/- May a packet be (mayBeTaken); the first number of a queue (first). mkQuY.py writes it. -/
namespace Go.Proofs.Ytgiicendejgklaa
open Go.RowKit Go.Maps
def TakenP (p : Pt) : Prop := (0 ≤ p.fr ∧ p.fr < 4) ∧ (0 ≤ p.tu ∧ p.tu < 4) ∧ 0 ≤ p.sq ∧ ((p.ack = true ∧ p.sq ≤ 1099511627776) ∨ (p.ack = false ∧ p.sq < 1099511627776 ∧ tellP p.fd))
set_option maxRecDepth 100000 in
set_option maxHeartbeats 8000000 in
theorem taken_any {w : World} (p : Pt) (x : Fx) {b : Bool} (hb : b = true ↔ TakenP p) :
    Calls Try.prog 27 #[.agg (ptC p x).toArray] w fun e w' => e = .returned (.bool b) ∧ Below w.heap.size w w' := by
  obtain ⟨fr, tu, ack, sq, fd⟩ := p
  have KT0 := fun W => told_any (w := W) fd x
  unfold TakenP tellP at hb
  unfold ptC
  simp only at hb ⊢
  obtain ⟨fc, hfc⟩ : ∃ z, z = fdC fd x := ⟨_, rfl⟩
  have hfl : fc.length = 53 := by rw [hfc]; rfl
  rw [← hfc] at KT0 ⊢
  have KS0 := fun W => isSrv_any (w := W) fr
  have KS3 := fun W => isSrv_any (w := W) tu
  obtain ⟨d1, hd1⟩ : ∃ z, z = decide (0 ≤ fr ∧ fr < 4) := ⟨_, rfl⟩
  obtain ⟨d2, hd2⟩ : ∃ z, z = decide (0 ≤ tu ∧ tu < 4) := ⟨_, rfl⟩
  obtain ⟨d3, hd3⟩ : ∃ z, z = decide (1 ≤ fd.kd ∧ fd.kd ≤ 6) := ⟨_, rfl⟩
  rw [← hd1] at KS0
  rw [← hd2] at KS3
  rw [← hd3] at KT0
  have HBB : Hid (b = true ↔ (d1 = true ∧ d2 = true ∧ 0 ≤ sq ∧ ((ack = true ∧ sq ≤ 1099511627776) ∨ (ack = false ∧ sq < 1099511627776 ∧ d3 = true)))) := by
    have : b = true ↔ (d1 = true ∧ d2 = true ∧ 0 ≤ sq ∧ ((ack = true ∧ sq ≤ 1099511627776) ∨ (ack = false ∧ sq < 1099511627776 ∧ d3 = true))) := by
      rw [hb, hd1, hd2, hd3, decide_eq_true_iff, decide_eq_true_iff, decide_eq_true_iff]
    exact this
  have KS1 := hide KS0
  have KS2 := hide KS3
  have KT := hide KT0
  obtain ⟨w0, hw0⟩ : ∃ w0, w0 = w.alloc (.cells (Value.int .i64 fr :: .int .i64 tu :: .bool ack :: .int .i64 sq :: fc).toArray 45) := ⟨_, rfl⟩
  have kk : w0.heap[w.heap.size]? = some (.cells (Value.int .i64 fr :: .int .i64 tu :: .bool ack :: .int .i64 sq :: fc).toArray 45 (0, 0)) := by rw [hw0]; exact heap_alloc_new _ _
  have bl : Below w.heap.size w w0 := by rw [hw0]; exact bwA _ _
  have HC : Hid (∀ W, Below w0.heap.size w0 W → W.cell? ⟨w.heap.size, 0, none⟩ = some (.int .i64 fr) ∧ W.cell? ⟨w.heap.size, 1, none⟩ = some (.int .i64 tu) ∧ W.cell? ⟨w.heap.size, 2, none⟩ = some (.bool ack) ∧ W.cell? ⟨w.heap.size, 3, none⟩ = some (.int .i64 sq) ∧ W.rangeAt w.heap.size 4 fc) := fun W hW => by
    have k1 := kept_b kk (lt_of_blk kk) hW
    exact ⟨blk_c k1 rfl, blk_c k1 rfl, blk_c k1 rfl, blk_c k1 rfl, blk_rngQ k1 (fun j u hj => by rw [show 4 + j = j + 1 + 1 + 1 + 1 by omega]; simpa using hj)⟩
  have HI : Hid ((Try.prog.info? 43).map (·.size) = some fc.length) := by rw [hfl]; exact infoFdS2
  obtain ⟨x0, _, _, _, _⟩ := unhide HC w0 (Below.refl _ _)
  generalize (Value.int .i64 fr :: .int .i64 tu :: .bool ack :: .int .i64 sq :: fc).toArray = CC at hw0 kk ⊢
  have HW := hide hw0
  have HBL := hide bl
  clear hb KT0 KS0 KS3 hd1 hd2 hd3 hfc hfl kk bl hw0
  go_enter Try.func27, Try.ntmps27
  go_upto_region 1 with fail
  rw [← unhide HW]
  clear HW
  go_wp2_with fail
  refine (unhide KS1 _).mono ?_
  rintro e w1 ⟨rfl, b1⟩
  clear x0
  cases d1 with
  | false =>
    have hb2 : b = false := false_iff (unhide HBB) (by simp)
    have HZ : Hid (Below w.heap.size w _) := bw_tr (unhide HBL) b1
    subst hb2
    clear HBB KS1 KS2 KT HC
    go_wp2_with fail
    go_ret
    exact ⟨by first | rfl | (simp; omega), unhide HZ⟩
  | true =>
    obtain ⟨_, y1, _, _, _⟩ := unhide HC w1 b1
    go_wp2_with fail
    refine (unhide KS2 _).mono ?_
    rintro e w2 ⟨rfl, b2⟩
    clear y1
    cases d2 with
    | false =>
      have hb2 : b = false := false_iff (unhide HBB) (by simp)
      have HZ : Hid (Below w.heap.size w _) := bw_tr (unhide HBL) (bw_tr b1 b2)
      subst hb2
      clear HBB KS1 KS2 KT HC
      go_wp2_with fail
      go_ret
      exact ⟨by first | rfl | (simp; omega), unhide HZ⟩
    | true =>
      obtain ⟨_, _, z2, z3, z4⟩ := unhide HC w2 (bw_tr b1 b2)
      have HR := hide z4
      clear z4
      by_cases h0 : sq < 0
      · have hb2 : b = false := false_iff (unhide HBB) (by simp; omega)
        have HZ : Hid (Below w.heap.size w _) := bw_tr (unhide HBL) (bw_tr b1 b2)
        subst hb2
        clear HBB KS1 KS2 KT HC
        go_wp2_with fail
        go_ret
        exact ⟨by first | rfl | (simp; omega), unhide HZ⟩
      · cases ack with
        | true =>
          by_cases h1 : sq ≤ 1099511627776
          · have hb2 : b = true := (unhide HBB).2 (by simp; omega)
            have HZ : Hid (Below w.heap.size w _) := bw_tr (unhide HBL) (bw_tr b1 b2)
            subst hb2
            clear HBB KS1 KS2 KT HC
            go_wp2_with fail
            go_ret
            exact ⟨by first | rfl | (simp; omega), unhide HZ⟩
          · have hb2 : b = false := false_iff (unhide HBB) (by simp; omega)
            have HZ : Hid (Below w.heap.size w _) := bw_tr (unhide HBL) (bw_tr b1 b2)
            subst hb2
            clear HBB KS1 KS2 KT HC
            go_wp2_with fail
            go_ret
            exact ⟨by first | rfl | (simp; omega), unhide HZ⟩
        | false =>
          by_cases h1 : sq < 1099511627776
          · go_wp2_with (refine wpList_load_midG (by first | rfl | simp [Region.wanted, yielded]) 43 (.tmp 27) rfl w.heap.size 4 (by simp [Act.eval]) fc _ (unhide HR) Try.underlying43 rfl (unhide HI) ?_)
            refine (unhide KT _).mono ?_
            rintro e w3 ⟨rfl, b3⟩
            clear z2 z3 HR
            cases d3 with
            | false =>
              have hb2 : b = false := false_iff (unhide HBB) (by simp)
              have HZ : Hid (Below w.heap.size w _) := bw_tr (unhide HBL) (bw_tr b1 (bw_tr b2 b3))
              subst hb2
              clear HBB KS1 KS2 KT HC
              go_wp2_with fail
              go_ret
              exact ⟨by first | rfl | (simp; omega), unhide HZ⟩
            | true =>
              have hb2 : b = true := (unhide HBB).2 (by simp; omega)
              have HZ : Hid (Below w.heap.size w _) := bw_tr (unhide HBL) (bw_tr b1 (bw_tr b2 b3))
              subst hb2
              clear HBB KS1 KS2 KT HC
              go_wp2_with fail
              go_ret
              exact ⟨by first | rfl | (simp; omega), unhide HZ⟩
          · have hb2 : b = false := false_iff (unhide HBB) (by simp; omega)
            have HZ : Hid (Below w.heap.size w _) := bw_tr (unhide HBL) (bw_tr b1 b2)
            subst hb2
            clear HBB KS1 KS2 KT HC
            go_wp2_with fail
            go_ret
            exact ⟨by first | rfl | (simp; omega), unhide HZ⟩
set_option maxRecDepth 100000 in
set_option maxHeartbeats 2000000 in
theorem first_any {w : World} {l : Lk} {x : Lx} (h : LkR w l x) (h0 : 0 ≤ l.nx) (h1 : l.nx ≤ 1099511627776) (hq : l.q.length ≤ 1024) :
    Calls Try.prog 30 #[.agg (lkC l x.qv x.ev).toArray] w fun e w' => e = .returned (.int .i64 (l.nx - (l.q.length : Int))) ∧ Below w.heap.size w w' := by
  have hqs := rdl_slice h.q
  obtain ⟨qv, qx, ev, exx⟩ := x
  simp only at hqs ⊢
  obtain ⟨aq, cq, rfl⟩ := hqs
  obtain ⟨pe, nx, q, exn, ea⟩ := l
  obtain ⟨NQ, hNQ⟩ : ∃ z, z = q.length := ⟨_, rfl⟩
  unfold lkC
  simp only at h0 h1 hq ⊢
  rw [← hNQ] at hq ⊢
  obtain ⟨w0, hw0⟩ : ∃ w0, w0 = w.alloc (.cells #[.int .i64 pe, .int .i64 nx, .slice aq NQ cq, .int .i64 exn, ev] 73) := ⟨_, rfl⟩
  have kk : w0.heap[w.heap.size]? = some (.cells #[.int .i64 pe, .int .i64 nx, .slice aq NQ cq, .int .i64 exn, ev] 73 (0, 0)) := by rw [hw0]; exact heap_alloc_new _ _
  have HBL : Hid (Below w.heap.size w w0) := by rw [hw0]; exact bwA _ _
  have y1 : w0.cell? ⟨w.heap.size, 1, none⟩ = some (.int .i64 nx) := blk_c kk rfl
  have y2 : w0.cell? ⟨w.heap.size, 2, none⟩ = some (.slice aq NQ cq) := blk_c kk rfl
  have hqI : (NQ : Int) ≤ 1024 := by omega
  have HW := hide hw0
  clear h kk hw0 hNQ hq
  go_enter Try.func30, Try.ntmps30
  go_upto_region 1 with fail
  rw [← unhide HW]
  clear HW
  go_wp2_with fail
  go_ret
  exact ⟨by go_num, unhide HBL⟩
end Go.Proofs.Ytgiicendejgklaa
