/- Texts joined: QuT QuY. -/
import Derived.Test.YtndgdpefoidfbaaQuGm
/- Does a link take what has such a number (wanted). mkQuT.py writes it. -/
namespace Go.Proofs.Ytndgdpefoidfbaa
open Go.RowKit Go.Maps
end Go.Proofs.Ytndgdpefoidfbaa

/- May a packet be (mayBeTaken); the first number of a queue (first). mkQuY.py writes it. -/
namespace Go.Proofs.Ytndgdpefoidfbaa
open Go.RowKit Go.Maps
def TakenP (p : Pt) : Prop := (0 ≤ p.fr ∧ p.fr < 4) ∧ (0 ≤ p.tu ∧ p.tu < 4) ∧ 0 ≤ p.sq ∧ ((p.ack = true ∧ p.sq ≤ 1099511627776) ∨ (p.ack = false ∧ p.sq < 1099511627776 ∧ tellP p.fd))
set_option maxRecDepth 100000 in
set_option maxHeartbeats 8000000 in
theorem taken_any {w : World} (p : Pt) (x : Fx) {b : Bool} (hb : b = true ↔ TakenP p) :
    Calls Try.prog 25 #[.agg (ptC p x).toArray] w fun e w' => e = .returned (.bool b) ∧ Below w.heap.size w w' := by
  obtain ⟨fr, tu, ack, sq, fd⟩ := p
  have KT0 := fun W => told_any (w := W) fd x
  unfold TakenP tellP at hb
  unfold ptC
  simp only at hb ⊢
  obtain ⟨fc, hfc⟩ : ∃ z, z = fdC fd x := ⟨_, rfl⟩
  have hfl : fc.length = 53 := by rw [hfc]; rfl
  rw [← hfc] at KT0 ⊢
  have KS0 := fun W => isSrv_any (w := W) fr
  have KS3 := fun W => isSrv_any (w := W) tu
  obtain ⟨d1, hd1⟩ : ∃ z, z = decide (0 ≤ fr ∧ fr < 4) := ⟨_, rfl⟩
  obtain ⟨d2, hd2⟩ : ∃ z, z = decide (0 ≤ tu ∧ tu < 4) := ⟨_, rfl⟩
  obtain ⟨d3, hd3⟩ : ∃ z, z = decide (1 ≤ fd.kd ∧ fd.kd ≤ 6) := ⟨_, rfl⟩
  rw [← hd1] at KS0
  rw [← hd2] at KS3
  rw [← hd3] at KT0
  have HBB : Hid (b = true ↔ (d1 = true ∧ d2 = true ∧ 0 ≤ sq ∧ ((ack = true ∧ sq ≤ 1099511627776) ∨ (ack = false ∧ sq < 1099511627776 ∧ d3 = true)))) := by
    have : b = true ↔ (d1 = true ∧ d2 = true ∧ 0 ≤ sq ∧ ((ack = true ∧ sq ≤ 1099511627776) ∨ (ack = false ∧ sq < 1099511627776 ∧ d3 = true))) := by
      rw [hb, hd1, hd2, hd3, decide_eq_true_iff, decide_eq_true_iff, decide_eq_true_iff]
    exact this
  have KS1 := hide KS0
  have KS2 := hide KS3
  have KT := hide KT0
  obtain ⟨w0, hw0⟩ : ∃ w0, w0 = w.alloc (.cells (Value.int .i64 fr :: .int .i64 tu :: .bool ack :: .int .i64 sq :: fc).toArray 44) := ⟨_, rfl⟩
  have kk : w0.heap[w.heap.size]? = some (.cells (Value.int .i64 fr :: .int .i64 tu :: .bool ack :: .int .i64 sq :: fc).toArray 44 (0, 0)) := by rw [hw0]; exact heap_alloc_new _ _
  have bl : Below w.heap.size w w0 := by rw [hw0]; exact bwA _ _
  have HC : Hid (∀ W, Below w0.heap.size w0 W → W.cell? ⟨w.heap.size, 0, none⟩ = some (.int .i64 fr) ∧ W.cell? ⟨w.heap.size, 1, none⟩ = some (.int .i64 tu) ∧ W.cell? ⟨w.heap.size, 2, none⟩ = some (.bool ack) ∧ W.cell? ⟨w.heap.size, 3, none⟩ = some (.int .i64 sq) ∧ W.rangeAt w.heap.size 4 fc) := fun W hW => by
    have k1 := kept_b kk (lt_of_blk kk) hW
    exact ⟨blk_c k1 rfl, blk_c k1 rfl, blk_c k1 rfl, blk_c k1 rfl, blk_rngQ k1 (fun j u hj => by rw [show 4 + j = j + 1 + 1 + 1 + 1 by omega]; simpa using hj)⟩
  have HI : Hid ((Try.prog.info? 42).map (·.size) = some fc.length) := by rw [hfl]; exact infoFdS2
  obtain ⟨x0, _, _, _, _⟩ := unhide HC w0 (Below.refl _ _)
  generalize (Value.int .i64 fr :: .int .i64 tu :: .bool ack :: .int .i64 sq :: fc).toArray = CC at hw0 kk ⊢
  have HW := hide hw0
  have HBL := hide bl
  clear hb KT0 KS0 KS3 hd1 hd2 hd3 hfc hfl kk bl hw0
  go_enter Try.func25, Try.ntmps25
  go_upto_region 1 with fail
  rw [← unhide HW]
  clear HW
  go_wp2_with fail
  refine (unhide KS1 _).mono ?_
  rintro e w1 ⟨rfl, b1⟩
  clear x0
  cases d1 with
  | false =>
    have hb2 : b = false := false_iff (unhide HBB) (by simp)
    have HZ : Hid (Below w.heap.size w _) := bw_tr (unhide HBL) b1
    subst hb2
    clear HBB KS1 KS2 KT HC
    go_wp2_with fail
    go_ret
    exact ⟨by first | rfl | (simp; omega), unhide HZ⟩
  | true =>
    obtain ⟨_, y1, _, _, _⟩ := unhide HC w1 b1
    go_wp2_with fail
    refine (unhide KS2 _).mono ?_
    rintro e w2 ⟨rfl, b2⟩
    clear y1
    cases d2 with
    | false =>
      have hb2 : b = false := false_iff (unhide HBB) (by simp)
      have HZ : Hid (Below w.heap.size w _) := bw_tr (unhide HBL) (bw_tr b1 b2)
      subst hb2
      clear HBB KS1 KS2 KT HC
      go_wp2_with fail
      go_ret
      exact ⟨by first | rfl | (simp; omega), unhide HZ⟩
    | true =>
      obtain ⟨_, _, z2, z3, z4⟩ := unhide HC w2 (bw_tr b1 b2)
      have HR := hide z4
      clear z4
      by_cases h0 : sq < 0
      · have hb2 : b = false := false_iff (unhide HBB) (by simp; omega)
        have HZ : Hid (Below w.heap.size w _) := bw_tr (unhide HBL) (bw_tr b1 b2)
        subst hb2
        clear HBB KS1 KS2 KT HC
        go_wp2_with fail
        go_ret
        exact ⟨by first | rfl | (simp; omega), unhide HZ⟩
      · cases ack with
        | true =>
          by_cases h1 : sq ≤ 1099511627776
          · have hb2 : b = true := (unhide HBB).2 (by simp; omega)
            have HZ : Hid (Below w.heap.size w _) := bw_tr (unhide HBL) (bw_tr b1 b2)
            subst hb2
            clear HBB KS1 KS2 KT HC
            go_wp2_with fail
            go_ret
            exact ⟨by first | rfl | (simp; omega), unhide HZ⟩
          · have hb2 : b = false := false_iff (unhide HBB) (by simp; omega)
            have HZ : Hid (Below w.heap.size w _) := bw_tr (unhide HBL) (bw_tr b1 b2)
            subst hb2
            clear HBB KS1 KS2 KT HC
            go_wp2_with fail
            go_ret
            exact ⟨by first | rfl | (simp; omega), unhide HZ⟩
        | false =>
          by_cases h1 : sq < 1099511627776
          · go_wp2_with (refine wpList_load_midG (by first | rfl | simp [Region.wanted, yielded]) 42 (.tmp 27) rfl w.heap.size 4 (by simp [Act.eval]) fc _ (unhide HR) Try.underlying42 rfl (unhide HI) ?_)
            refine (unhide KT _).mono ?_
            rintro e w3 ⟨rfl, b3⟩
            clear z2 z3 HR
            cases d3 with
            | false =>
              have hb2 : b = false := false_iff (unhide HBB) (by simp)
              have HZ : Hid (Below w.heap.size w _) := bw_tr (unhide HBL) (bw_tr b1 (bw_tr b2 b3))
              subst hb2
              clear HBB KS1 KS2 KT HC
              go_wp2_with fail
              go_ret
              exact ⟨by first | rfl | (simp; omega), unhide HZ⟩
            | true =>
              have hb2 : b = true := (unhide HBB).2 (by simp; omega)
              have HZ : Hid (Below w.heap.size w _) := bw_tr (unhide HBL) (bw_tr b1 (bw_tr b2 b3))
              subst hb2
              clear HBB KS1 KS2 KT HC
              go_wp2_with fail
              go_ret
              exact ⟨by first | rfl | (simp; omega), unhide HZ⟩
          · have hb2 : b = false := false_iff (unhide HBB) (by simp; omega)
            have HZ : Hid (Below w.heap.size w _) := bw_tr (unhide HBL) (bw_tr b1 b2)
            subst hb2
            clear HBB KS1 KS2 KT HC
            go_wp2_with fail
            go_ret
            exact ⟨by first | rfl | (simp; omega), unhide HZ⟩
end Go.Proofs.Ytndgdpefoidfbaa
