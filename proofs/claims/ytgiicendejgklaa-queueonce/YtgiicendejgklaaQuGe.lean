/- May a link expect (mayExpect). mkQuG.py writes it. -/
import Derived.Test.YtgiicendejgklaaZ21
namespace Go.Proofs.Ytgiicendejgklaa
open Go.RowKit Go.Maps
def pvE (ex : Int) (ea : List Er) (i : Nat) : Int := if i = 0 then ex else match ea[i - 1]? with | some q => q.sq | none => ex
def ExpP (l : Lk) : Prop := 0 ≤ l.ex ∧ l.ex ≤ 1099511627776 ∧ l.ea.length ≤ 1024 ∧ ∀ (i : Nat) e, l.ea[i]? = some e → pvE l.ex l.ea i < e.sq ∧ e.sq < 1099511627776 ∧ tellP e.fd
theorem wpList_load_midG {ops : Array Oper} {rest : List Oper} {op : Oper} {a : Act} {w : World} {Q : Exit → Act → World → Prop} (hgd : Region.wanted op (yielded ops a.tmps) = true) (ty : TypeId) (x : Operand) (ho : op.op = .load ty x)
    (b o : Nat) (hx : a.eval x = .pointer (some ⟨b, o, none⟩)) (cs : List Value) (d : TypeDesc) (hc : w.rangeAt b o cs)
    (hu : Try.prog.underlying ty = some d) (hd : d.isRow = true) (hi : (Try.prog.info? ty).map (·.size) = some cs.length)
    (h : wpList Try.prog ops Q rest (a.put op.dst (.agg cs.toArray)) w) : wpList Try.prog ops Q (op :: rest) a w :=
  wpList_step fun K hK => by rw [if_pos hgd]; exact wp_load_mid ty x ho b o hx cs d hc hu hd hi (hK _ _ h)
theorem infoErS2 : (Try.prog.info? 87).map (·.size) = some 54 := by kernel_rfl
set_option maxRecDepth 100000 in
set_option maxHeartbeats 8000000 in
theorem expect_any {w : World} {l : Lk} {x : Lx} (h : LkR w l x) (hq : l.ea.length ≤ 1073741824) {b : Bool} (hb : b = true ↔ ExpP l) :
    Calls Try.prog 35 #[.agg (lkC l x.qv x.ev).toArray] w fun e w' => e = .returned (.bool b) ∧ Below w.heap.size w w' := by
  have hqs := rdl_slice h.q
  have hes := rdl_slice h.e
  obtain ⟨qv, qx, ev, exx⟩ := x
  simp only at hqs hes ⊢
  obtain ⟨aq, cq, rfl⟩ := hqs
  obtain ⟨ae, ce, rfl⟩ := hes
  obtain ⟨pe, nx, q, exn, ea⟩ := l
  obtain ⟨NQ, hNQ⟩ : ∃ z, z = q.length := ⟨_, rfl⟩
  obtain ⟨NE, hNE⟩ : ∃ z, z = ea.length := ⟨_, rfl⟩
  unfold lkC
  simp only at h hb hNQ hNE ⊢
  rw [← hNQ, ← hNE] at h ⊢
  obtain ⟨w0, hw0⟩ : ∃ w0, w0 = w.alloc (.cells #[.int .i64 pe, .int .i64 nx, .slice aq NQ cq, .int .i64 exn, .slice ae NE ce] 73) := ⟨_, rfl⟩
  have bl : Below w.heap.size w w0 := by rw [hw0]; exact bwA _ _
  have kk : w0.heap[w.heap.size]? = some (.cells #[.int .i64 pe, .int .i64 nx, .slice aq NQ cq, .int .i64 exn, .slice ae NE ce] 73 (0, 0)) := by rw [hw0]; exact heap_alloc_new _ _
  have HC : Hid (∀ W, Below w0.heap.size w0 W → W.cell? ⟨w.heap.size, 0, none⟩ = some (.int .i64 pe) ∧ W.cell? ⟨w.heap.size, 1, none⟩ = some (.int .i64 nx) ∧ W.cell? ⟨w.heap.size, 2, none⟩ = some (.slice aq NQ cq) ∧ W.cell? ⟨w.heap.size, 3, none⟩ = some (.int .i64 exn) ∧ W.cell? ⟨w.heap.size, 4, none⟩ = some (.slice ae NE ce)) := fun W hW => by
    have k1 := kept_b kk (lt_of_blk kk) hW
    exact ⟨blk_c k1 rfl, blk_c k1 rfl, blk_c k1 rfl, blk_c k1 rfl, blk_c k1 rfl⟩
  have hqI : (NE : Int) ≤ 1073741824 := by simp only at hq; omega
  have HQ : Hid (∀ i, i < NE → ∃ f cs g o, ea[i]? = some f ∧ ae = some ⟨g, o, none⟩ ∧ (∃ y, cs = erC f y) ∧ Hid (∀ u ∈ cs, u.oneCell' = true) ∧ ∀ W, Below w0.heap.size w0 W → W.rangeAt g (o + i * 54) cs) := fun i hi => by
    obtain ⟨f, hf⟩ : ∃ f, ea[i]? = some f := ⟨_, List.getElem?_eq_getElem (by omega)⟩
    obtain ⟨g, o, y, e, _, hR, hc⟩ := h.e.get hf
    exact ⟨f, _, g, o, hf, e, ⟨y, rfl⟩, er_one hR.1, fun W hW => rng_bw (fun j u hj => hc j u hj) (bw_tr bl hW)⟩
  have HF : Hid (∀ (i : Nat) f, ea[i]? = some f → ¬ (pvE exn ea i < f.sq ∧ f.sq < 1099511627776 ∧ tellP f.fd) → b = false) := fun i f hf hn => false_iff hb (fun hp => hn (hp.2.2.2 i f hf))
  have HG : Hid ((∀ (i : Nat) f, i < NE → ea[i]? = some f → pvE exn ea i < f.sq ∧ f.sq < 1099511627776 ∧ tellP f.fd) → 0 ≤ exn → exn ≤ 1099511627776 → NE ≤ 1024 → b = true) := fun h4 h1 h2 h3 => hb.2 ⟨h1, h2, by simp only; omega, fun i f hi => h4 i f (by have hh : i < ea.length := (List.getElem?_eq_some_iff.1 hi).1; omega) hi⟩
  have HX : Hid (¬ (0 ≤ exn ∧ exn ≤ 1099511627776 ∧ NE ≤ 1024) → b = false) := fun hn => false_iff hb (fun hp => hn ⟨hp.1, hp.2.1, by have := hp.2.2.1; simp only at this; omega⟩)
  have HPV : Hid (∀ (i : Nat) f, ea[i]? = some f → pvE exn ea (i + 1) = f.sq) := fun i f hf => by
    unfold pvE
    rw [if_neg (by omega), Nat.add_sub_cancel, hf]
  have HP0 : Hid (pvE exn ea 0 = exn) := by unfold pvE; rw [if_pos rfl]; exact rfl
  obtain ⟨y0, y1, y2, y3, y4⟩ := unhide HC w0 (Below.refl _ _)
  have HW := hide hw0
  have HBL := hide bl
  clear h hq hb bl kk hw0 hNQ hNE y0 y1 y2
  by_cases h1 : 0 ≤ exn
  · by_cases h2 : exn ≤ 1099511627776
    · by_cases h3 : NE ≤ 1024
      · have h3I : (NE : Int) ≤ 1024 := by omega
        clear HX
        go_enter Try.func35, Try.ntmps35
        go_upto_region 1 with fail
        rw [← unhide HW]
        clear HW
        go_wp2_with fail
        clear y3 y4
        go_loopw [3, 25] (fun av iv wr => ∃ (i : Nat) (ab : Int), i ≤ NE ∧ iv = .int .i64 (i : Int) ∧ av = .int .i64 ab ∧ Hid (ab = pvE exn ea i ∧ Below w0.heap.size w0 wr ∧ ∀ (j : Nat) f, j < i → ea[j]? = some f → pvE exn ea j < f.sq ∧ f.sq < 1099511627776 ∧ tellP f.fd)) (fun _ iv _ => (NE - intOf iv).toNat)
        case atStart => exact ⟨0, exn, Nat.zero_le _, rfl, rfl, (unhide HP0).symm, Below.refl _ _, fun j f hj => absurd hj (by omega)⟩
        case round =>
          obtain ⟨i, ab, hi, rfl, rfl, HR⟩ := hrel
          by_cases hlt : i < NE
          · obtain ⟨f, cs, g, o, hf, rfl, hcs, hone, hrg⟩ := unhide HQ i hlt
            have hiI : (i : Int) < (NE : Int) := by omega
            have h0 : (0 : Int) ≤ (i : Int) := by omega
            obtain ⟨yx, hcs⟩ := hcs
            obtain ⟨sq, hsq⟩ : ∃ z, z = f.sq := ⟨_, rfl⟩
            obtain ⟨fc, hfc⟩ : ∃ z, z = fdC f.fd yx := ⟨_, rfl⟩
            have hce : cs = .int .i64 sq :: fc := by rw [hcs, hsq, hfc]; rfl
            have hfl : fc.length = 53 := by rw [hfc]; rfl
            have KT := fun W => told_any (w := W) f.fd yx
            rw [← hfc] at KT
            have hcl : cs.length = 54 := by rw [hcs]; rfl
            have z1 : (Try.prog.info? 87).map (·.size) = some cs.length := by rw [hcl]; exact infoErS2
            have z2 : (Try.prog.info? 87).map (·.size) = some cs.toArray.size := by rw [List.size_toArray, hcl]; exact infoErS2
            have z3 : er0.size = cs.toArray.size := by
              have q_ : cs.toArray.size = 54 := by simpa using hcl
              rw [q_]; rfl
            have z4 : (Try.prog.info? 43).map (·.size) = some fc.length := by rw [hfl]; exact infoFdS2
            have HZ := hide (And.intro (hrg wr (unhide HR).2.1) (And.intro z1 (And.intro z2 (And.intro z3 z4))))
            have HO := hone
            have HKT := hide KT
            have HFF := hide hf
            have HSQ := hide hsq
            have HCE := hide hce
            clear hrg z1 z2 z3 z4 hcl hcs KT hf hfc hfl hce hone hsq
            go_upto_region 7 with (first | refine wpList_load_mid rfl 87 (.tmp 27) rfl g (o + i * 54) (by simp [Act.eval]) cs _ (unhide HZ).1 Try.underlying87 rfl (unhide HZ).2.1 ?_ | refine wpList_store_row rfl 87 (.tmp 5) (.tmp 28) rfl wr.heap.size cs.toArray rfl rfl 87 er0 (heap_alloc_new _ _) (unhide HZ).2.2.1 (unhide HZ).2.2.2.1 (all_oneCell_toArray (unhide HO)) ?_)
            generalize hW : World.setRow (wr.alloc _) wr.heap.size cs.toArray = W2
            have g0 : W2.heap[wr.heap.size]? = some (.cells cs.toArray 87 (0, 0)) := by rw [← hW]; exact setRow_heap _ _ _ _ _ _ (heap_alloc_new _ _)
            have g1 : Below wr.heap.size wr W2 := by rw [← hW]; exact below_setRow' (bwA _ _) (Nat.le_refl _) _
            clear hW
            have hsz2 : wr.heap.size < W2.heap.size := lt_of_blk g0
            have CL : ∀ W, Below W2.heap.size W2 W → W.cell? ⟨wr.heap.size, 0, none⟩ = some (.int .i64 sq) := fun W hW => by
              have k1 := kept_b g0 (lt_of_blk g0) hW
              rw [unhide HCE] at k1
              exact blk_c k1 rfl
            have RG : W2.rangeAt wr.heap.size 1 fc := by
              rw [unhide HCE] at g0
              exact blk_rngQ g0 (fun j u hj => by rw [Nat.add_comm, List.getElem?_cons_succ]; exact hj)
            have s0 := CL W2 (Below.refl _ _)
            have HCL := hide CL
            have KF1 := hide (unhide HKT W2)
            have HG2 : Hid (W2.rangeAt wr.heap.size 1 fc ∧ Below w0.heap.size w0 W2) := ⟨RG, bw_tr (unhide HR).2.1 g1⟩
            have HBW := hide (bw_tr (unhide HBL) (unhide HG2).2)
            clear g0 g1 HKT CL RG hsz2
            obtain ⟨tk, htk⟩ : ∃ z, z = decide (1 ≤ f.fd.kd ∧ f.fd.kd ≤ 6) := ⟨_, rfl⟩
            rw [← htk] at KF1
            have HTK := hide htk
            clear htk
            by_cases k1 : sq ≤ ab
            · have hb := unhide HF i f (unhide HFF) (fun c => by have h1 := c.1; rw [← unhide HSQ, ← (unhide HR).1] at h1; omega)
              subst hb
              clear HF HG
              go_wp2_with fail
              go_ret
              exact ⟨rfl, unhide HBW⟩
            · by_cases k2 : 1099511627776 ≤ sq
              · have hb := unhide HF i f (unhide HFF) (fun c => by have h1 := c.2.1; rw [← unhide HSQ] at h1; omega)
                subst hb
                clear HF HG
                go_wp2_with fail
                go_ret
                exact ⟨rfl, unhide HBW⟩
              · go_wp2_with (refine wpList_load_midG (by first | rfl | simp [Region.wanted, yielded]) 43 (.tmp 39) rfl wr.heap.size 1 (by simp [Act.eval]) fc _ (unhide HG2).1 Try.underlying43 rfl (unhide HZ).2.2.2.2 ?_)
                refine (unhide KF1).mono ?_
                rintro e w2 ⟨rfl, b2⟩
                have HB2 := hide (bw_tr (unhide HG2).2 b2)
                have s1 := unhide HCL w2 b2
                clear b2 KF1 HG2 HZ HO s0 HBW
                cases tk with
                | true =>
                  have HNX : Hid (sq = pvE exn ea (i + 1) ∧ Below w0.heap.size w0 w2 ∧ ∀ (j : Nat) f, j < i + 1 → ea[j]? = some f → pvE exn ea j < f.sq ∧ f.sq < 1099511627776 ∧ tellP f.fd) := by
                    refine ⟨by rw [unhide HPV i f (unhide HFF)]; exact unhide HSQ, unhide HB2, fun j f' hj hf' => ?_⟩
                    rcases Nat.lt_or_ge j i with d | d
                    · exact (unhide HR).2.2 j f' d hf'
                    · obtain rfl : j = i := by omega
                      rw [unhide HFF] at hf'; cases hf'
                      rw [← (unhide HR).1, ← unhide HSQ]
                      exact ⟨by omega, by omega, (of_decide_eq_true (unhide HTK).symm : 1 ≤ f.fd.kd ∧ f.fd.kd ≤ 6)⟩
                  go_wp2_with fail
                  go_roundw
                  case rel => exact ⟨i + 1, sq, by omega, by go_num, rfl, HNX⟩
                  case measure => simp only [intOf]; omega
                | false =>
                  have HBZ := hide (bw_tr (unhide HBL) (unhide HB2))
                  have hb := unhide HF i f (unhide HFF) (fun c => (of_decide_eq_false (unhide HTK).symm : ¬ (1 ≤ f.fd.kd ∧ f.fd.kd ≤ 6)) c.2.2)
                  subst hb
                  clear HF HG
                  go_wp2_with fail
                  go_ret
                  exact ⟨rfl, unhide HBZ⟩
          · obtain rfl : i = NE := by omega
            have hb := unhide HG (unhide HR).2.2 h1 h2 h3
            subst hb
            have HBZ := hide (bw_tr (unhide HBL) (unhide HR).2.1)
            clear HR HF HG
            go_wp2_with fail
            go_ret
            exact ⟨rfl, unhide HBZ⟩
      · have h3I : (1024 : Int) < (NE : Int) := by omega
        have hb := unhide HX (fun c => h3 c.2.2)
        subst hb
        clear HX HG HF HQ HC HPV HP0
        go_enter Try.func35, Try.ntmps35
        go_upto_region 1 with fail
        rw [← unhide HW]
        go_wp2_with fail
        go_ret
        exact ⟨rfl, unhide HBL⟩
    · have hb := unhide HX (fun c => h2 c.2.1)
      subst hb
      clear HX HG HF HQ HC HPV HP0
      go_enter Try.func35, Try.ntmps35
      go_upto_region 1 with fail
      rw [← unhide HW]
      go_wp2_with fail
      go_ret
      exact ⟨rfl, unhide HBL⟩
  · have hb := unhide HX (fun c => h1 c.1)
    subst hb
    clear HX HG HF HQ HC HPV HP0
    go_enter Try.func35, Try.ntmps35
    go_upto_region 1 with fail
    rw [← unhide HW]
    go_wp2_with fail
    go_ret
    exact ⟨rfl, unhide HBL⟩
end Go.Proofs.Ytgiicendejgklaa
