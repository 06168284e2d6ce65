/- receive, what came is wanted. -/
import Derived.Test.YtgiicendejgklaaZ27
import Derived.Deep.RegionHeld3
namespace Go.Proofs.Ytgiicendejgklaa
open Go.RowKit Go.Maps
set_option maxRecDepth 100000 in
set_option maxHeartbeats 8000000 in
theorem recvGo_any {w : World} {B lb lo : Nat} {l : Lk} {x : Lx} {e : Er} {y : Fx} {LC : Array Value} (hlb : w.heap[lb]? = some (.cells LC 73 (0, 0))) (hLC : ∀ j u, (lkC l x.qv x.ev)[j]? = some u → LC[lo + j]? = some u) (ho : OL B w l x) (hsm : SmL l) (hce : OF B w e.fd y) (hse : SmF e.fd) (hq : l.ea.length ≤ 1024) (hx0 : 0 ≤ l.ex) (hx1 : l.ex ≤ 1099511627776) (hs0 : 0 ≤ e.sq) (hs1 : e.sq < 1099511627776)
    (hri : l.ea.Pairwise (fun a b => a.sq < b.sq)) (hgt : ∀ a ∈ l.ea, l.ex < a.sq) (hle : ∀ a ∈ l.ea, a.sq < 1099511627776) (hn1 : ∀ k ∈ lxZ x, k ≠ lb) (hn2 : ∀ k ∈ fxZ y, k ≠ lb) (hBw : B ≤ w.heap.size) (hw : WantP l e.sq) :
    Calls Try.prog 29 #[.pointer (some ⟨lb, lo, none⟩), .agg (erC e y).toArray] w fun r w' => ∃ tv ev k tx kx, r = .returned tv ∧ Hid (k ≤ l.ea.length ∧ (insAt l.ea k e).Pairwise (fun a b => a.sq < b.sq) ∧ RecvQ B w w' lb lo LC (runE (fun a : Er => a.sq) l.ex (insAt l.ea k e)) tv ev tx kx) := by
  have h : LkR w l x := OL.rd ho hsm
  have h1 : ∀ u ∈ erC e y, u.oneCell' = true := er_one (OF.rd hce hse)
  have hnew : ∀ a ∈ l.ea, a.sq ≠ e.sq := fun a ha hc => by
    rcases hw with q | ⟨_, _, _, q⟩
    · have := hgt a ha; omega
    · obtain ⟨i, hi, ei⟩ := List.getElem_of_mem ha
      exact q i a (by rw [← ei]; exact List.getElem?_eq_getElem hi) hc
  obtain ⟨CS, hCS⟩ : ∃ z, z = erC e y := ⟨_, rfl⟩
  obtain ⟨w0, hw0⟩ : ∃ w0, w0 = w.alloc (.cells CS.toArray 87) := ⟨_, rfl⟩
  have kk : w0.heap[w.heap.size]? = some (.cells CS.toArray 87 (0, 0)) := by rw [hw0]; exact heap_alloc_new _ _
  have bl : Below w.heap.size w w0 := by rw [hw0]; exact bwA _ _
  obtain ⟨W, hW⟩ : ∃ W, W = w0.drew := ⟨_, rfl⟩
  have bW : Below w.heap.size w W := by rw [hW]; exact bl.drew
  have x1 : W.cell? ⟨w.heap.size, 0, none⟩ = some (.int .i64 e.sq) := by
    rw [hW]
    exact blk_c (W := w0.drew) kk (by rw [hCS]; rfl)
  have hd : true = true ↔ WantP l e.sq := ⟨fun _ => hw, fun _ => rfl⟩
  have KW := hide (wanted_any (w := W) (h.bw bW) hq hx0 hx1 hs0 hs1 hd)
  have hlk : w.rangeAt lb lo (lkC l x.qv x.ev) := fun j u hj => blk_c hlb (hLC j u hj)
  obtain ⟨CL, hCL⟩ : ∃ z, z = lkC l x.qv x.ev := ⟨_, rfl⟩
  rw [← hCL] at KW hlk
  have RNG : Hid (W.rangeAt lb lo CL) := rng_bw hlk bW
  have HI : Hid ((Try.prog.info? 73).map (·.size) = some CL.length) := by rw [hCL]; exact infoLkS
  obtain ⟨sq, hsq⟩ : ∃ z, z = e.sq := ⟨_, rfl⟩
  rw [← hsq] at x1 KW
  rw [← hCS]
  have HWD := hide hW
  have HW := hide hw0
  have HBW := hide bW
  have KP : Hid (∀ V, Below W.heap.size W V → Calls Try.prog 43 #[x.ev] V fun r V' => ∃ g bp eg eo k, r = .returned (.pointer (some ⟨bp, 0, none⟩)) ∧ Hid (Calls Try.prog 44 #[.iface 99 (.pointer (some ⟨bp, 0, none⟩)), .iface 102 (.pointer (some ⟨w.heap.size, 0, none⟩))] V' fun r2 V2 => r2 = .returned (.tuple #[]) ∧ Hid (k ≤ l.ea.length ∧ (insAt l.ea k e).Pairwise (fun a b => a.sq < b.sq) ∧ (∀ (i : Nat) a, l.ea[i]? = some a → ∃ z, x.ex[i]? = some z ∧ FdR V a.fd z ∧ V.rangeAt eg (eo + i * 54) (erC a z)) ∧ Below V.heap.size V V' ∧ V.heap.size ≤ g ∧ V.heap.size ≤ bp ∧ (0 < l.ea.length → ∃ c, x.ev = .slice (some ⟨eg, eo, none⟩) l.ea.length c) ∧ ∃ F g' c', Pq V2 bp g' (l.ea.length + 1) c' F (insAt (elsOf eg eo l.ea) k ⟨w.heap.size, 0, e.sq⟩) ∧ Fr [bp, g] V' V2 ∧ (g' = g ∨ V'.heap.size ≤ g')))) := by
    intro V hV
    have x1 : W.cell? ⟨w.heap.size, 0, none⟩ = some (.int .i64 e.sq) := by rw [← hsq]; exact x1
    have hbv := bw_tr bW hV
    refine (piled_any (w := V) (h.e.bw hbv) hq).mono ?_
    rintro r V' ⟨g, bp, eg, eo, rfl, HP⟩
    obtain ⟨p1, p2, p3, p4, p5, p6⟩ := unhide HP
    obtain ⟨k, k1, k2, k3⟩ := place_ex (fun a : Er => a.sq) e.sq l.ea hri hnew
    have hr2 := ins_rise (fun a : Er => a.sq) (x := e) hri k2 k3
    have x2 : V'.cell? ⟨w.heap.size, 0, none⟩ = some (.int .i64 e.sq) := by
      rw [p5.cell (lt_of_cell (by rw [hV.cell (lt_of_cell x1)]; exact x1 : V.cell? ⟨w.heap.size, 0, none⟩ = some (.int .i64 e.sq))), hV.cell (lt_of_cell x1)]; exact x1
    have hlt : w.heap.size < V.heap.size := by
      have := lt_of_cell x1
      have := hV.size
      simp only at *
      omega
    refine ⟨g, bp, eg, eo, k, rfl, ?_⟩
    have hP := pushR_any (piledR p1 (fun i j a b hij ha hb => by
      have hi := List.getElem?_eq_some_iff.1 ha
      have hj := List.getElem?_eq_some_iff.1 hb
      have := List.pairwise_iff_getElem.1 hri i j hi.1 hj.1 hij
      rw [hi.2, hj.2] at this; exact this)) (by unfold maxLen; omega) (by omega) (x := ⟨w.heap.size, 0, e.sq⟩) x2 (by constructor <;> (show w.heap.size ≠ _; omega)) (fun a ha hc => by
      obtain ⟨i, hi, rfl⟩ := elsOf_mem ha
      have := congrArg El.sq hc
      unfold pF at this
      rw [List.getElem?_eq_getElem hi] at this
      exact hnew _ (List.getElem_mem hi) this) k
    refine Calls.mono hP ?_
    rintro r2 V2 ⟨rfl, F', g', c', q1, q2, q3⟩
    exact ⟨rfl, k1, hr2, p2, p5, p3, p4, p6, F', g', c', q1, q2, q3⟩
  have HLB := hide (And.intro hlb (And.intro hLC h))
  have hbx : W.heap[w.heap.size]? = some (.cells (erC e y).toArray 87 (0, 0)) := by rw [hW, ← hCS]; exact kk
  have hWs : W.heap.size = w.heap.size + 1 := by rw [hW, hw0]; simp
  have HBX := hide (And.intro hWs (And.intro bW (And.intro hbx h1)))
  have HOW := hide (And.intro ho (And.intro hsm (And.intro hce (And.intro hse (And.intro hn1 hn2)))))
  have HPL := hide (And.intro hx0 (And.intro hx1 (And.intro hs0 (And.intro hs1 (And.intro hri (And.intro hgt hle))))))
  have HEV : Hid (∀ V, Below W.heap.size W V → V.cell? ⟨lb, lo + 4, none⟩ = some x.ev) := fun V hV => by
    have k := (rng_bw hlk (bw_tr bW hV)) 4 _ (by rw [hCL]; rfl)
    exact k
  have HQ5 := hide hq
  have HBW0 := hide hBw
  clear hgt hnew hri hq hle ho hsm hce hse hn1 hn2 h1 hbx hWs hBw
  clear hlb hLC hlk h hx0 hx1 hs0 hs1 hw hd hCS kk bl hW hw0 hCL bW hsq
  go_enter Try.func29, Try.ntmps29
  go_upto_region 1 with fail
  rw [← unhide HW]
  clear HW
  refine wp_region_any (by kernel_rfl) ?_
  change wpAny _ _ _ _ _ _ _ (World.drew _)
  rw [← unhide HWD]
  refine wpAny_take (i := 0) (oi := { dst := some 9, op := Op.move (Operand.tmp 0), type := 79, pos := "early.go:61", after := #[], guard := none }) (v := .pointer (some ⟨lb, lo, none⟩)) rfl (by kernel_rfl) (by kernel_rfl) (by kernel_rfl) (fun _ _ _ h => h) (Or.inl ⟨by rfl, fun w => by go_simp⟩) ?_
  try simp only [Act.put, List.setIfInBounds_toArray, List.set_cons_zero, List.set_cons_succ]
  refine wpAny_take (i := 3) (oi := { dst := some 12, op := Op.fieldAddr 87 (Operand.tmp 3) 0, type := 0, pos := "early.go:61", after := #[], guard := none }) (v := .pointer (some ⟨w.heap.size, 0, none⟩)) rfl (by kernel_rfl) (by kernel_rfl) (by kernel_rfl) (fun _ _ _ h => h) (Or.inl ⟨by rfl, fun w => by go_simp⟩) ?_
  try simp only [Act.put, List.setIfInBounds_toArray, List.set_cons_zero, List.set_cons_succ]
  refine wpAny_take (i := 1) (oi := { dst := some 10, op := Op.nilCheck (Operand.tmp 9), type := 0, pos := "early.go:61", after := #[{ on := 0, ground := Ground.data }], guard := none }) (v := .pointer (some ⟨lb, lo, none⟩)) rfl (by kernel_rfl) (by kernel_rfl) (by kernel_rfl) (fun _ _ _ h => h) (Or.inl ⟨by rfl, fun w => by go_simp⟩) ?_
  try simp only [Act.put, List.setIfInBounds_toArray, List.set_cons_zero, List.set_cons_succ]
  refine wpAny_ready (rs := [2, 4]) (by kernel_rfl) (by simp) (AllReady.cons (o := { dst := some 11, op := Op.load 73 (Operand.tmp 10), type := 73, pos := "early.go:61", after := #[{ on := 1, ground := Ground.data }], guard := none }) rfl (fun K hK => ?_) (AllReady.cons (o := { dst := some 13, op := Op.load 3 (Operand.tmp 12), type := 3, pos := "early.go:61", after := #[{ on := 3, ground := Ground.data }], guard := none }) rfl (fun K hK => ?_) AllReady.nil))
  · refine step_loadQ rfl 73 (.tmp 10) rfl lb lo (by first | rfl | simp [Act.eval, Act.put]) CL _ (unhide RNG) Try.underlying73 rfl (unhide HI) ?_
    refine hK _ _ ?_
    clear hK K
    try simp only [Act.put, List.setIfInBounds_toArray, List.set_cons_zero, List.set_cons_succ]
    refine wpAny_ready (rs := [4]) (by kernel_rfl) (by simp) (AllReady.cons (o := { dst := some 13, op := Op.load 3 (Operand.tmp 12), type := 3, pos := "early.go:61", after := #[{ on := 3, ground := Ground.data }], guard := none }) rfl (fun K hK => ?_) AllReady.nil)
    go_simp
    refine hK _ _ ?_
    clear hK K
    try simp only [Act.put, List.setIfInBounds_toArray, List.set_cons_zero, List.set_cons_succ]
    refine wpAny_ready (rs := [5]) (by kernel_rfl) (by simp) (AllReady.cons (o := { dst := some 14, op := Op.call { callee := Callee.value (Operand.func 42), args := #[Operand.tmp 11, Operand.tmp 13], argTypes := #[73, 3] }, type := 4, pos := "early.go:61", after := #[{ on := 2, ground := Ground.data }, { on := 4, ground := Ground.data }], guard := none }) rfl (fun K hK => ?_) AllReady.nil)
    go_simp
    refine (unhide KW).mono ?_
    rintro e_ zz ⟨rfl, b3⟩
    have HZ := hide (bw_tr (unhide HBW) b3)
    have c4 := unhide HEV zz b3
    have HZ2 := hide b3
    clear b3 KW x1 RNG HI HWD HBW HEV
    go_wp2_with fail
    try simp only [Act.put, List.setIfInBounds_toArray, List.set_cons_zero, List.set_cons_succ]
    refine wpAny_take (i := 6) (oi := { dst := some 15, op := Op.unOp UnOp.not 4 (Operand.tmp 14), type := 4, pos := "early.go:61", after := #[{ on := 5, ground := Ground.data }], guard := none }) (v := .bool false) rfl (by kernel_rfl) (by kernel_rfl) (by kernel_rfl) (fun _ _ _ h => h) (Or.inl ⟨by rfl, fun w => by go_simp⟩) ?_
    try simp only [Act.put, List.setIfInBounds_toArray, List.set_cons_zero, List.set_cons_succ]
    refine wpAny_done (by kernel_rfl) ?_ _
    go_wp2_with fail
    refine (unhide KP zz (unhide HZ2)).mono ?_
    rintro e_ w3 ⟨g, bp, eg, eo, k, rfl, KQ⟩
    go_wp2_with fail
    refine (unhide KQ).mono ?_
    rintro e_ w4 ⟨rfl, HQ⟩
    clear KP KQ
    go_upto_region 6 with fail
    obtain ⟨k1, hpw, hel, hb3, hg3, hbp3, hev, F, g', c', hpq, hf, hgg⟩ := unhide HQ
    obtain ⟨N, hN⟩ : ∃ N, N = l.ea.length + 1 := ⟨_, rfl⟩
    rw [← hN] at hpq
    have hNb : N ≤ 1025 := by have := unhide HQ5; omega
    obtain ⟨W5, hW5⟩ : ∃ W5, W5 = w4.alloc (.cells #[.pointer (some ⟨lb, lo, none⟩), .slice none 0 0] 104) := ⟨_, rfl⟩
    have b5 : Below w4.heap.size w4 W5 := by rw [hW5]; exact bwA _ _
    have lz : lb < zz.heap.size := by have := lt_of_blk (unhide HLB).1; have := (unhide HZ).size; omega
    have hz3 := hb3.size
    have hl4 : w4.heap[lb]? = some (.cells LC 73 (0, 0)) := by
      rw [hf.block lb (by omega) (by simp only [List.mem_cons, List.not_mem_nil, or_false, not_or]; omega), hb3.block lb lz, (unhide HZ).block lb (lt_of_blk (unhide HLB).1)]
      exact (unhide HLB).1
    have hl5 := kept_b hl4 (lt_of_blk hl4) b5
    have t5 : W5.cell? ⟨bp, 0, none⟩ = some (.slice (some ⟨g', 0, none⟩) N c') := by rw [b5.cell (lt_of_cell hpq.pl.top)]; exact hpq.pl.top
    obtain ⟨j0, hj, hy0, hy1, hyb⟩ := info_parts infoKEarly
    obtain ⟨W6, hrun, ho6, hg6⟩ := run_make_own (P := Try.prog) (w := W5) W5.heap.size 71 87 j0 (.agg er0) 54 Try.underlying71 hj hy0 hy1 .i64 .i64 N (by rw [hyb]; omega) (by unfold maxLen; omega) (Nat.le_refl _)
    have b6 : Below W5.heap.size W5 W6 := (Fr.ofGrown hg6).toBelow
    have hl6 := kept_b hl5 (lt_of_blk hl5) b6
    have v6 : W6.cell? ⟨lb, lo + 4, none⟩ = some x.ev := blk_c hl6 ((unhide HLB).2.1 4 _ rfl)
    have f6 : W6.frozen? ⟨lb, lo + 4, none⟩ = false := froz_b' hl6
    have HW5 := hide hW5
    have HX := hide (And.intro hN (And.intro hNb (And.intro b5 (And.intro hl4 (And.intro hl6 (And.intro ho6 (And.intro hg6 (And.intro hpq (And.intro hf (And.intro hgg (And.intro k1 (And.intro hpw (And.intro hel (And.intro hb3 (And.intro hg3 (And.intro hbp3 hev))))))))))))))))
    clear hN hNb b5 hl4 hl5 hl6 ho6 hg6 hpq hf hgg k1 hpw hel hb3 hg3 hbp3 hev lz hz3 hj hy0 hy1 hyb b6 hW5 HQ
    rw [← unhide HW5]
    go_wp2_with fail
    have HM0 : Hid (∃ (D : El → Er) (X : El → Fx), RcL (fun j => j = lb ∨ W.heap.size ≤ j) W.heap.size D X w4.heap.size lb lo bp W (W6.setCell ⟨lb, lo + 4, none⟩ (.slice (some ⟨W5.heap.size, 0, none⟩) 0 N)) LC (runE El.sq l.ex (insAt (elsOf eg eo l.ea) k ⟨w.heap.size, 0, e.sq⟩)) N l.ex [] [] (insAt (elsOf eg eo l.ea) k ⟨w.heap.size, 0, e.sq⟩) (.slice none 0 0) (.slice (some ⟨W5.heap.size, 0, none⟩) 0 N) g' c' F (LC.setIfInBounds (lo + 4) (.slice (some ⟨W5.heap.size, 0, none⟩) 0 N)) ∧
        (∀ V, (∀ j, B ≤ j → j < w.heap.size → j ≠ lb → V.heap[j]? = w.heap[j]?) → ∀ a, FdR V (D a).fd (X a) ∧ SmF (D a).fd) ∧ runE (fun a : Er => a.sq) l.ex (insAt l.ea k e) = ((runE El.sq l.ex (insAt (elsOf eg eo l.ea) k ⟨w.heap.size, 0, e.sq⟩)).1.map D, (runE El.sq l.ex (insAt (elsOf eg eo l.ea) k ⟨w.heap.size, 0, e.sq⟩)).2.1, (runE El.sq l.ex (insAt (elsOf eg eo l.ea) k ⟨w.heap.size, 0, e.sq⟩)).2.2.map D)) := by
      obtain ⟨hN, hNb, b5, hl4, hl6, ho6, hg6, hpq, hf, hgg, k1, hpw, hel, hb3, hg3, hbp3, hev⟩ := unhide HX
      obtain ⟨s1, s2, s3, s4⟩ := unhide HBX
      obtain ⟨q1, q2, q3, q4, q5, q6, q7⟩ := unhide HPL
      exact recv_start (unhide HLB).1 (unhide HLB).2.1 s1 s2 s3 s4 (unhide HZ2) hb3 hg3 hbp3 hf hgg hpq (unhide HW5) hg6 ho6 hel hev hpw q1 q2 q4 q7 (unhide HOW)
    obtain ⟨D, X, HM1, HM2, HM3⟩ := unhide HM0
    have HM1 := hide HM1
    have HFD := hide HM2
    have HRU := hide HM3
    have HKP := hide (And.intro (unhide HX).2.2.2.2.2.2.2.2.2.2.1 (unhide HX).2.2.2.2.2.2.2.2.2.2.2.1)
    have HNB : Hid (N ≤ 1025) := (unhide HX).2.1
    clear HM0 HM2 HM3
    obtain ⟨R, hR⟩ : ∃ z, z = runE El.sq l.ex (insAt (elsOf eg eo l.ea) k ⟨w.heap.size, 0, e.sq⟩) := ⟨_, rfl⟩
    rw [← hR] at HM1 HRU
    generalize hrb : w4.heap.size = rb at HM1 ⊢
    clear hrb
    clear hR
    go_loopw [7, 8] (fun _ _ wr => ∃ ex A K L tv ev g2 cap F2 LC2, Hid (RcL (fun j => j = lb ∨ W.heap.size ≤ j) W.heap.size D X rb lb lo bp W wr LC R N ex A K L tv ev g2 cap F2 LC2)) (fun _ _ wr => lenQ ((wr.cell? ⟨bp, 0, none⟩).getD (.slice none 0 0)))
    case atStart => exact ⟨_, _, _, _, _, _, _, _, _, _, HM1⟩
    case round =>
      clear HM1
      obtain ⟨ex, A, K, L, tv, ev, g2, cap, F2, LC2, HR⟩ := hrel
      have t0 : wr.cell? ⟨bp, 0, none⟩ = some (.slice (some ⟨g2, 0, none⟩) L.length cap) := (unhide HR).i.pq.pl.top
      cases L with
      | nil =>
        have t1 : wr.cell? ⟨rb, 1, none⟩ = some tv := blk_c (unhide HR).i.rc rfl
        have HF : Hid (k ≤ l.ea.length ∧ (insAt l.ea k e).Pairwise (fun a b => a.sq < b.sq) ∧ RecvQ B w wr lb lo LC (runE (fun a : Er => a.sq) l.ex (insAt l.ea k e)) tv ev (A.map X) (K.map X)) := ⟨(unhide HKP).1, (unhide HKP).2, by rw [unhide HRU]; exact (unhide HR).fin (unhide HBX).2.1 (by have := unhide HBW0; have := (unhide HBX).1; omega) (fun V hV => unhide HFD V (fun j hj1 hj2 hj3 => (hV.block j hj1 (Nat.lt_of_lt_of_le hj2 (Nat.le_trans (unhide HBX).2.1.size (unhide HR).i.sz))).trans ((unhide HR).old (unhide HBX).2.1 j hj2 hj3)))⟩
        clear HKP HRU HR HFD HX HW5 HLB HBX HOW HPL HQ5 HNB HBW0
        go_wp2_with fail
        go_ret
        exact ⟨tv, ev, k, _, _, rfl, HF⟩
      | cons a L =>
        have hl0 : (0 : Int) < ((a :: L).length : Int) := by simp only [List.length_cons]; omega
        have KPop := hide (popR_any (n := L.length) (by have := (unhide HR).i.pq; simpa using this) (fun b hb => (List.pairwise_cons.1 (unhide HR).up).1 b hb))
        obtain ⟨n, hn⟩ : ∃ n, n = (a :: L).length := ⟨_, rfl⟩
        rw [← hn] at t0 hl0
        have HN := hide hn
        clear hn HX HW5 HLB HKP HRU HFD HN HBX HOW HPL HQ5
        go_wp2_with fail
        refine (unhide KPop).mono ?_
        rintro e_ w1 ⟨rfl, F3, p1, p2⟩
        have HW1 : Hid (_ ∧ _ ∧ _ ∧ _) := (unhide HR).i.pop p1 p2
        have s0 : w1.cell? ⟨a.b, a.o, none⟩ = some (.int .i64 a.sq) := by
          have := (unhide HW1).2.1 0 (.int .i64 (D a).sq) rfl
          rw [(unhide HW1).2.2.1] at this
          simpa using this
        have KW := hide (way_any (unhide HW1).1.rc (unhide HW1).1.lk (unhide HW1).1.l3 a.sq)
        have t1 : w1.cell? ⟨bp, 0, none⟩ = some (.slice (some ⟨g2, 0, none⟩) L.length cap) := p1.pl.top
        have hta : ∀ w, (Instr.typeAssert (.iface 102 (.pointer (some ⟨a.b, a.o, none⟩))) 20 102 false).run Try.prog w = .ok (.pointer (some ⟨a.b, a.o, none⟩)) w := fun w => by kernel_rfl
        clear t0 KPop p1 p2 t1
        unfold ptrE
        go_wp2_with fail
        refine (unhide KW).mono ?_
        rintro e_ w2 ⟨rfl, rfl⟩
        clear KW s0
        by_cases hc : a.sq = ex
        · rw [if_pos hc]
          have HC := hide hc
          have KT := hide (tell_any (unhide HW1).1.rc (unhide HW1).1.tw (by have := (unhide HR).n; have := unhide HNB; omega) (by have := (unhide HW1).1.hB; have := (unhide HW1).1.sz; omega) (unhide HW1).1.lk (unhide HW1).1.l3 (unhide HR).x0 (unhide HR).x1 (unhide HW1).2.1 (fun u hu => (unhide HW1).2.2.2 u (List.mem_cons_of_mem _ hu)) (unhide HW1).1.d1 (fun q => ((unhide HW1).1.dt _ q).1 rfl) (fun q => ((unhide HW1).1.dt _ q).2.1 rfl))
          clear hc
          go_wp2_with fail
          refine (unhide KT).mono ?_
          rintro e_ w3_ ⟨rfl, tv2, HT⟩
          have HN2 := hide ((unhide HR).tell (unhide HW1).1 (unhide HC) (unhide HT).1 (unhide HT).2.1 (unhide HT).2.2.1 (unhide HT).2.2.2.1 (unhide HT).2.2.2.2)
          have HM2 : Hid (lenQ ((w3_.cell? ⟨bp, 0, none⟩).getD (.slice none 0 0)) < lenQ ((wr.cell? ⟨bp, 0, none⟩).getD (.slice none 0 0))) := by
            rw [(unhide HN2).i.pq.pl.top, (unhide HR).i.pq.pl.top]
            show L.length < (a :: L).length
            simp
          clear KT HT HC HW1 HR HNB hl0
          go_wp2_with fail
          go_roundw
          case rel => exact ⟨_, _, _, _, _, _, _, _, _, _, HN2⟩
          case measure => exact unhide HM2
        · rw [if_neg hc]
          have HC := hide hc
          have KT := hide (keep_any (unhide HW1).1.rc (unhide HW1).1.ew (by have := (unhide HR).n; have := unhide HNB; omega) (by have := (unhide HW1).1.hB; have := (unhide HW1).1.sz; omega) (unhide HW1).1.lk (unhide HW1).1.l4 (unhide HW1).2.1 (unhide HW1).2.2.2 (unhide HW1).1.d1 (fun q => ((unhide HW1).1.de _ q).1 rfl) (fun q => ((unhide HW1).1.de _ q).2.1 rfl))
          clear hc
          go_wp2_with fail
          refine (unhide KT).mono ?_
          rintro e_ w3_ ⟨rfl, ev2, HT⟩
          have HN2 := hide ((unhide HR).keep (unhide HW1).1 (unhide HC) (unhide HT).1 (unhide HT).2.1 (unhide HT).2.2.1 (unhide HT).2.2.2.1 (unhide HT).2.2.2.2)
          have HM2 : Hid (lenQ ((w3_.cell? ⟨bp, 0, none⟩).getD (.slice none 0 0)) < lenQ ((wr.cell? ⟨bp, 0, none⟩).getD (.slice none 0 0))) := by
            rw [(unhide HN2).i.pq.pl.top, (unhide HR).i.pq.pl.top]
            show L.length < (a :: L).length
            simp
          clear KT HT HC HW1 HR HNB hl0
          go_wp2_with fail
          go_roundw
          case rel => exact ⟨_, _, _, _, _, _, _, _, _, _, HN2⟩
          case measure => exact unhide HM2
  · go_simp
    refine hK _ _ ?_
    clear hK K
    try simp only [Act.put, List.setIfInBounds_toArray, List.set_cons_zero, List.set_cons_succ]
    refine wpAny_ready (rs := [2]) (by kernel_rfl) (by simp) (AllReady.cons (o := { dst := some 11, op := Op.load 73 (Operand.tmp 10), type := 73, pos := "early.go:61", after := #[{ on := 1, ground := Ground.data }], guard := none }) rfl (fun K hK => ?_) AllReady.nil)
    refine step_loadQ rfl 73 (.tmp 10) rfl lb lo (by first | rfl | simp [Act.eval, Act.put]) CL _ (unhide RNG) Try.underlying73 rfl (unhide HI) ?_
    refine hK _ _ ?_
    clear hK K
    try simp only [Act.put, List.setIfInBounds_toArray, List.set_cons_zero, List.set_cons_succ]
    refine wpAny_ready (rs := [5]) (by kernel_rfl) (by simp) (AllReady.cons (o := { dst := some 14, op := Op.call { callee := Callee.value (Operand.func 42), args := #[Operand.tmp 11, Operand.tmp 13], argTypes := #[73, 3] }, type := 4, pos := "early.go:61", after := #[{ on := 2, ground := Ground.data }, { on := 4, ground := Ground.data }], guard := none }) rfl (fun K hK => ?_) AllReady.nil)
    go_simp
    refine (unhide KW).mono ?_
    rintro e_ zz ⟨rfl, b3⟩
    have HZ := hide (bw_tr (unhide HBW) b3)
    have c4 := unhide HEV zz b3
    have HZ2 := hide b3
    clear b3 KW x1 RNG HI HWD HBW HEV
    go_wp2_with fail
    try simp only [Act.put, List.setIfInBounds_toArray, List.set_cons_zero, List.set_cons_succ]
    refine wpAny_take (i := 6) (oi := { dst := some 15, op := Op.unOp UnOp.not 4 (Operand.tmp 14), type := 4, pos := "early.go:61", after := #[{ on := 5, ground := Ground.data }], guard := none }) (v := .bool false) rfl (by kernel_rfl) (by kernel_rfl) (by kernel_rfl) (fun _ _ _ h => h) (Or.inl ⟨by rfl, fun w => by go_simp⟩) ?_
    try simp only [Act.put, List.setIfInBounds_toArray, List.set_cons_zero, List.set_cons_succ]
    refine wpAny_done (by kernel_rfl) ?_ _
    go_wp2_with fail
    refine (unhide KP zz (unhide HZ2)).mono ?_
    rintro e_ w3 ⟨g, bp, eg, eo, k, rfl, KQ⟩
    go_wp2_with fail
    refine (unhide KQ).mono ?_
    rintro e_ w4 ⟨rfl, HQ⟩
    clear KP KQ
    go_upto_region 6 with fail
    obtain ⟨k1, hpw, hel, hb3, hg3, hbp3, hev, F, g', c', hpq, hf, hgg⟩ := unhide HQ
    obtain ⟨N, hN⟩ : ∃ N, N = l.ea.length + 1 := ⟨_, rfl⟩
    rw [← hN] at hpq
    have hNb : N ≤ 1025 := by have := unhide HQ5; omega
    obtain ⟨W5, hW5⟩ : ∃ W5, W5 = w4.alloc (.cells #[.pointer (some ⟨lb, lo, none⟩), .slice none 0 0] 104) := ⟨_, rfl⟩
    have b5 : Below w4.heap.size w4 W5 := by rw [hW5]; exact bwA _ _
    have lz : lb < zz.heap.size := by have := lt_of_blk (unhide HLB).1; have := (unhide HZ).size; omega
    have hz3 := hb3.size
    have hl4 : w4.heap[lb]? = some (.cells LC 73 (0, 0)) := by
      rw [hf.block lb (by omega) (by simp only [List.mem_cons, List.not_mem_nil, or_false, not_or]; omega), hb3.block lb lz, (unhide HZ).block lb (lt_of_blk (unhide HLB).1)]
      exact (unhide HLB).1
    have hl5 := kept_b hl4 (lt_of_blk hl4) b5
    have t5 : W5.cell? ⟨bp, 0, none⟩ = some (.slice (some ⟨g', 0, none⟩) N c') := by rw [b5.cell (lt_of_cell hpq.pl.top)]; exact hpq.pl.top
    obtain ⟨j0, hj, hy0, hy1, hyb⟩ := info_parts infoKEarly
    obtain ⟨W6, hrun, ho6, hg6⟩ := run_make_own (P := Try.prog) (w := W5) W5.heap.size 71 87 j0 (.agg er0) 54 Try.underlying71 hj hy0 hy1 .i64 .i64 N (by rw [hyb]; omega) (by unfold maxLen; omega) (Nat.le_refl _)
    have b6 : Below W5.heap.size W5 W6 := (Fr.ofGrown hg6).toBelow
    have hl6 := kept_b hl5 (lt_of_blk hl5) b6
    have v6 : W6.cell? ⟨lb, lo + 4, none⟩ = some x.ev := blk_c hl6 ((unhide HLB).2.1 4 _ rfl)
    have f6 : W6.frozen? ⟨lb, lo + 4, none⟩ = false := froz_b' hl6
    have HW5 := hide hW5
    have HX := hide (And.intro hN (And.intro hNb (And.intro b5 (And.intro hl4 (And.intro hl6 (And.intro ho6 (And.intro hg6 (And.intro hpq (And.intro hf (And.intro hgg (And.intro k1 (And.intro hpw (And.intro hel (And.intro hb3 (And.intro hg3 (And.intro hbp3 hev))))))))))))))))
    clear hN hNb b5 hl4 hl5 hl6 ho6 hg6 hpq hf hgg k1 hpw hel hb3 hg3 hbp3 hev lz hz3 hj hy0 hy1 hyb b6 hW5 HQ
    rw [← unhide HW5]
    go_wp2_with fail
    have HM0 : Hid (∃ (D : El → Er) (X : El → Fx), RcL (fun j => j = lb ∨ W.heap.size ≤ j) W.heap.size D X w4.heap.size lb lo bp W (W6.setCell ⟨lb, lo + 4, none⟩ (.slice (some ⟨W5.heap.size, 0, none⟩) 0 N)) LC (runE El.sq l.ex (insAt (elsOf eg eo l.ea) k ⟨w.heap.size, 0, e.sq⟩)) N l.ex [] [] (insAt (elsOf eg eo l.ea) k ⟨w.heap.size, 0, e.sq⟩) (.slice none 0 0) (.slice (some ⟨W5.heap.size, 0, none⟩) 0 N) g' c' F (LC.setIfInBounds (lo + 4) (.slice (some ⟨W5.heap.size, 0, none⟩) 0 N)) ∧
        (∀ V, (∀ j, B ≤ j → j < w.heap.size → j ≠ lb → V.heap[j]? = w.heap[j]?) → ∀ a, FdR V (D a).fd (X a) ∧ SmF (D a).fd) ∧ runE (fun a : Er => a.sq) l.ex (insAt l.ea k e) = ((runE El.sq l.ex (insAt (elsOf eg eo l.ea) k ⟨w.heap.size, 0, e.sq⟩)).1.map D, (runE El.sq l.ex (insAt (elsOf eg eo l.ea) k ⟨w.heap.size, 0, e.sq⟩)).2.1, (runE El.sq l.ex (insAt (elsOf eg eo l.ea) k ⟨w.heap.size, 0, e.sq⟩)).2.2.map D)) := by
      obtain ⟨hN, hNb, b5, hl4, hl6, ho6, hg6, hpq, hf, hgg, k1, hpw, hel, hb3, hg3, hbp3, hev⟩ := unhide HX
      obtain ⟨s1, s2, s3, s4⟩ := unhide HBX
      obtain ⟨q1, q2, q3, q4, q5, q6, q7⟩ := unhide HPL
      exact recv_start (unhide HLB).1 (unhide HLB).2.1 s1 s2 s3 s4 (unhide HZ2) hb3 hg3 hbp3 hf hgg hpq (unhide HW5) hg6 ho6 hel hev hpw q1 q2 q4 q7 (unhide HOW)
    obtain ⟨D, X, HM1, HM2, HM3⟩ := unhide HM0
    have HM1 := hide HM1
    have HFD := hide HM2
    have HRU := hide HM3
    have HKP := hide (And.intro (unhide HX).2.2.2.2.2.2.2.2.2.2.1 (unhide HX).2.2.2.2.2.2.2.2.2.2.2.1)
    have HNB : Hid (N ≤ 1025) := (unhide HX).2.1
    clear HM0 HM2 HM3
    obtain ⟨R, hR⟩ : ∃ z, z = runE El.sq l.ex (insAt (elsOf eg eo l.ea) k ⟨w.heap.size, 0, e.sq⟩) := ⟨_, rfl⟩
    rw [← hR] at HM1 HRU
    generalize hrb : w4.heap.size = rb at HM1 ⊢
    clear hrb
    clear hR
    go_loopw [7, 8] (fun _ _ wr => ∃ ex A K L tv ev g2 cap F2 LC2, Hid (RcL (fun j => j = lb ∨ W.heap.size ≤ j) W.heap.size D X rb lb lo bp W wr LC R N ex A K L tv ev g2 cap F2 LC2)) (fun _ _ wr => lenQ ((wr.cell? ⟨bp, 0, none⟩).getD (.slice none 0 0)))
    case atStart => exact ⟨_, _, _, _, _, _, _, _, _, _, HM1⟩
    case round =>
      clear HM1
      obtain ⟨ex, A, K, L, tv, ev, g2, cap, F2, LC2, HR⟩ := hrel
      have t0 : wr.cell? ⟨bp, 0, none⟩ = some (.slice (some ⟨g2, 0, none⟩) L.length cap) := (unhide HR).i.pq.pl.top
      cases L with
      | nil =>
        have t1 : wr.cell? ⟨rb, 1, none⟩ = some tv := blk_c (unhide HR).i.rc rfl
        have HF : Hid (k ≤ l.ea.length ∧ (insAt l.ea k e).Pairwise (fun a b => a.sq < b.sq) ∧ RecvQ B w wr lb lo LC (runE (fun a : Er => a.sq) l.ex (insAt l.ea k e)) tv ev (A.map X) (K.map X)) := ⟨(unhide HKP).1, (unhide HKP).2, by rw [unhide HRU]; exact (unhide HR).fin (unhide HBX).2.1 (by have := unhide HBW0; have := (unhide HBX).1; omega) (fun V hV => unhide HFD V (fun j hj1 hj2 hj3 => (hV.block j hj1 (Nat.lt_of_lt_of_le hj2 (Nat.le_trans (unhide HBX).2.1.size (unhide HR).i.sz))).trans ((unhide HR).old (unhide HBX).2.1 j hj2 hj3)))⟩
        clear HKP HRU HR HFD HX HW5 HLB HBX HOW HPL HQ5 HNB HBW0
        go_wp2_with fail
        go_ret
        exact ⟨tv, ev, k, _, _, rfl, HF⟩
      | cons a L =>
        have hl0 : (0 : Int) < ((a :: L).length : Int) := by simp only [List.length_cons]; omega
        have KPop := hide (popR_any (n := L.length) (by have := (unhide HR).i.pq; simpa using this) (fun b hb => (List.pairwise_cons.1 (unhide HR).up).1 b hb))
        obtain ⟨n, hn⟩ : ∃ n, n = (a :: L).length := ⟨_, rfl⟩
        rw [← hn] at t0 hl0
        have HN := hide hn
        clear hn HX HW5 HLB HKP HRU HFD HN HBX HOW HPL HQ5
        go_wp2_with fail
        refine (unhide KPop).mono ?_
        rintro e_ w1 ⟨rfl, F3, p1, p2⟩
        have HW1 : Hid (_ ∧ _ ∧ _ ∧ _) := (unhide HR).i.pop p1 p2
        have s0 : w1.cell? ⟨a.b, a.o, none⟩ = some (.int .i64 a.sq) := by
          have := (unhide HW1).2.1 0 (.int .i64 (D a).sq) rfl
          rw [(unhide HW1).2.2.1] at this
          simpa using this
        have KW := hide (way_any (unhide HW1).1.rc (unhide HW1).1.lk (unhide HW1).1.l3 a.sq)
        have t1 : w1.cell? ⟨bp, 0, none⟩ = some (.slice (some ⟨g2, 0, none⟩) L.length cap) := p1.pl.top
        have hta : ∀ w, (Instr.typeAssert (.iface 102 (.pointer (some ⟨a.b, a.o, none⟩))) 20 102 false).run Try.prog w = .ok (.pointer (some ⟨a.b, a.o, none⟩)) w := fun w => by kernel_rfl
        clear t0 KPop p1 p2 t1
        unfold ptrE
        go_wp2_with fail
        refine (unhide KW).mono ?_
        rintro e_ w2 ⟨rfl, rfl⟩
        clear KW s0
        by_cases hc : a.sq = ex
        · rw [if_pos hc]
          have HC := hide hc
          have KT := hide (tell_any (unhide HW1).1.rc (unhide HW1).1.tw (by have := (unhide HR).n; have := unhide HNB; omega) (by have := (unhide HW1).1.hB; have := (unhide HW1).1.sz; omega) (unhide HW1).1.lk (unhide HW1).1.l3 (unhide HR).x0 (unhide HR).x1 (unhide HW1).2.1 (fun u hu => (unhide HW1).2.2.2 u (List.mem_cons_of_mem _ hu)) (unhide HW1).1.d1 (fun q => ((unhide HW1).1.dt _ q).1 rfl) (fun q => ((unhide HW1).1.dt _ q).2.1 rfl))
          clear hc
          go_wp2_with fail
          refine (unhide KT).mono ?_
          rintro e_ w3_ ⟨rfl, tv2, HT⟩
          have HN2 := hide ((unhide HR).tell (unhide HW1).1 (unhide HC) (unhide HT).1 (unhide HT).2.1 (unhide HT).2.2.1 (unhide HT).2.2.2.1 (unhide HT).2.2.2.2)
          have HM2 : Hid (lenQ ((w3_.cell? ⟨bp, 0, none⟩).getD (.slice none 0 0)) < lenQ ((wr.cell? ⟨bp, 0, none⟩).getD (.slice none 0 0))) := by
            rw [(unhide HN2).i.pq.pl.top, (unhide HR).i.pq.pl.top]
            show L.length < (a :: L).length
            simp
          clear KT HT HC HW1 HR HNB hl0
          go_wp2_with fail
          go_roundw
          case rel => exact ⟨_, _, _, _, _, _, _, _, _, _, HN2⟩
          case measure => exact unhide HM2
        · rw [if_neg hc]
          have HC := hide hc
          have KT := hide (keep_any (unhide HW1).1.rc (unhide HW1).1.ew (by have := (unhide HR).n; have := unhide HNB; omega) (by have := (unhide HW1).1.hB; have := (unhide HW1).1.sz; omega) (unhide HW1).1.lk (unhide HW1).1.l4 (unhide HW1).2.1 (unhide HW1).2.2.2 (unhide HW1).1.d1 (fun q => ((unhide HW1).1.de _ q).1 rfl) (fun q => ((unhide HW1).1.de _ q).2.1 rfl))
          clear hc
          go_wp2_with fail
          refine (unhide KT).mono ?_
          rintro e_ w3_ ⟨rfl, ev2, HT⟩
          have HN2 := hide ((unhide HR).keep (unhide HW1).1 (unhide HC) (unhide HT).1 (unhide HT).2.1 (unhide HT).2.2.1 (unhide HT).2.2.2.1 (unhide HT).2.2.2.2)
          have HM2 : Hid (lenQ ((w3_.cell? ⟨bp, 0, none⟩).getD (.slice none 0 0)) < lenQ ((wr.cell? ⟨bp, 0, none⟩).getD (.slice none 0 0))) := by
            rw [(unhide HN2).i.pq.pl.top, (unhide HR).i.pq.pl.top]
            show L.length < (a :: L).length
            simp
          clear KT HT HC HW1 HR HNB hl0
          go_wp2_with fail
          go_roundw
          case rel => exact ⟨_, _, _, _, _, _, _, _, _, _, HN2⟩
          case measure => exact unhide HM2
end Go.Proofs.Ytgiicendejgklaa
