/- Texts joined: PoS PoT. -/
import Derived.Test.YtnimdnoemmodaaaZ15
import Derived.Test.YtnimdnoemmodaaaZ18
import Derived.Deep.MidRow
import Derived.Test.YtnimdnoemmodaaaZ13
/- SameFace, SameMail, SameMails, SameBox of equal ones. -/
namespace Go.Proofs.Ytnimdnoemmodaaa
open Go.RowKit Go.Maps
theorem Try.cellsCardsx : Try.prog.cellsOf 47 = 3 := by kernel_rfl
theorem Try.wideCardsx : (match Try.prog.underlying 47 with | some (.array _ _) | some (.struct _) => true | _ => false) = true := by kernel_rfl
theorem keyOf_Cards (z0 z1 z2 : Int) (h0 : -9223372036854775808 ≤ z0 ∧ z0 ≤ 9223372036854775807) (h1 : -9223372036854775808 ≤ z1 ∧ z1 ≤ 9223372036854775807) (h2 : -9223372036854775808 ≤ z2 ∧ z2 ≤ 9223372036854775807) : ∃ kl, keyOf Try.prog 47 (.agg #[.int .i64 z0, .int .i64 z1, .int .i64 z2]) = some kl := by
  have hk : Try.prog.keyType 47 = true := by kernel_rfl
  have hf : (Value.agg #[.int .i64 z0, .int .i64 z1, .int .i64 z2]).formed Try.prog 47 = true := by
    have u0 := Try.underlying47
    have c0 := Try.cellsCardsx
    generalize Try.prog = P at *
    simp [Value.formed, u0, c0]
  obtain ⟨m, hm⟩ : ∃ m, Try.prog.types.size = m + 1 := ⟨Try.prog.types.size - 1, by have : 0 < Try.prog.types.size := of_decide_eq_true (by kernel_rfl); omega⟩
  have c3 : Try.prog.cellsOf 3 = 1 := by kernel_rfl
  refine ⟨.string (keyBytes [.int .i64 z0, .int .i64 z1, .int .i64 z2]), ?_⟩
  have w0 := wf_i64' h0
  have w1 := wf_i64' h1
  have w2 := wf_i64' h2
  have u0 := Try.underlying47
  have u3 := Try.underlying3
  have c0 := Try.cellsCardsx
  generalize Try.prog = P at *
  simp only [keyOf, u0, hk, hf, hm, Bool.and_self, if_true]
  simp [Program.keyLits, u0, u3, c0, c3, Value.cells, w0, w1, w2]
set_option maxRecDepth 100000 in
theorem equal_Cards (w : World) (z0 z1 z2 : Int) (h0 : -9223372036854775808 ≤ z0 ∧ z0 ≤ 9223372036854775807) (h1 : -9223372036854775808 ≤ z1 ∧ z1 ≤ 9223372036854775807) (h2 : -9223372036854775808 ≤ z2 ∧ z2 ≤ 9223372036854775807) : (Op.equal 47 (.agg #[.int .i64 z0, .int .i64 z1, .int .i64 z2]) (.agg #[.int .i64 z0, .int .i64 z1, .int .i64 z2])).run Try.prog w = .ok true w := by
  obtain ⟨x, hx⟩ := keyOf_Cards z0 z1 z2 h0 h1 h2
  obtain ⟨r, hr, hiff⟩ := run_equal_deep w (m := 3) (by omega) (by kernel_rfl) Try.wideCardsx hx hx
  rw [hr, hiff.2 rfl]
theorem Try.cellsNotesx : Try.prog.cellsOf 51 = 5 := by kernel_rfl
theorem Try.wideNotesx : (match Try.prog.underlying 51 with | some (.array _ _) | some (.struct _) => true | _ => false) = true := by kernel_rfl
theorem keyOf_Notes (z0 z1 z2 z3 z4 : Int) (h0 : -9223372036854775808 ≤ z0 ∧ z0 ≤ 9223372036854775807) (h1 : -9223372036854775808 ≤ z1 ∧ z1 ≤ 9223372036854775807) (h2 : -9223372036854775808 ≤ z2 ∧ z2 ≤ 9223372036854775807) (h3 : -9223372036854775808 ≤ z3 ∧ z3 ≤ 9223372036854775807) (h4 : -9223372036854775808 ≤ z4 ∧ z4 ≤ 9223372036854775807) : ∃ kl, keyOf Try.prog 51 (.agg #[.int .i64 z0, .int .i64 z1, .int .i64 z2, .int .i64 z3, .int .i64 z4]) = some kl := by
  have hk : Try.prog.keyType 51 = true := by kernel_rfl
  have hf : (Value.agg #[.int .i64 z0, .int .i64 z1, .int .i64 z2, .int .i64 z3, .int .i64 z4]).formed Try.prog 51 = true := by
    have u0 := Try.underlying51
    have c0 := Try.cellsNotesx
    generalize Try.prog = P at *
    simp [Value.formed, u0, c0]
  obtain ⟨m, hm⟩ : ∃ m, Try.prog.types.size = m + 1 := ⟨Try.prog.types.size - 1, by have : 0 < Try.prog.types.size := of_decide_eq_true (by kernel_rfl); omega⟩
  have c3 : Try.prog.cellsOf 3 = 1 := by kernel_rfl
  refine ⟨.string (keyBytes [.int .i64 z0, .int .i64 z1, .int .i64 z2, .int .i64 z3, .int .i64 z4]), ?_⟩
  have w0 := wf_i64' h0
  have w1 := wf_i64' h1
  have w2 := wf_i64' h2
  have w3 := wf_i64' h3
  have w4 := wf_i64' h4
  have u0 := Try.underlying51
  have u3 := Try.underlying3
  have c0 := Try.cellsNotesx
  generalize Try.prog = P at *
  simp only [keyOf, u0, hk, hf, hm, Bool.and_self, if_true]
  simp [Program.keyLits, u0, u3, c0, c3, Value.cells, w0, w1, w2, w3, w4]
set_option maxRecDepth 100000 in
theorem equal_Notes (w : World) (z0 z1 z2 z3 z4 : Int) (h0 : -9223372036854775808 ≤ z0 ∧ z0 ≤ 9223372036854775807) (h1 : -9223372036854775808 ≤ z1 ∧ z1 ≤ 9223372036854775807) (h2 : -9223372036854775808 ≤ z2 ∧ z2 ≤ 9223372036854775807) (h3 : -9223372036854775808 ≤ z3 ∧ z3 ≤ 9223372036854775807) (h4 : -9223372036854775808 ≤ z4 ∧ z4 ≤ 9223372036854775807) : (Op.equal 51 (.agg #[.int .i64 z0, .int .i64 z1, .int .i64 z2, .int .i64 z3, .int .i64 z4]) (.agg #[.int .i64 z0, .int .i64 z1, .int .i64 z2, .int .i64 z3, .int .i64 z4])).run Try.prog w = .ok true w := by
  obtain ⟨x, hx⟩ := keyOf_Notes z0 z1 z2 z3 z4 h0 h1 h2 h3 h4
  obtain ⟨r, hr, hiff⟩ := run_equal_deep w (m := 3) (by omega) (by kernel_rfl) Try.wideNotesx hx hx
  rw [hr, hiff.2 rfl]
theorem infoCmS : (Try.prog.info? 45).map (·.size) = some 15 := by kernel_rfl
theorem infoMlS : (Try.prog.info? 53).map (·.size) = some 30 := by kernel_rfl
theorem blk_rng {W : World} {b : Nat} {cs : List Value} {t : TypeId} (h : W.heap[b]? = some (.cells cs.toArray t (0, 0))) {o : Nat} {ds : List Value} (hd : ∀ j u, ds[j]? = some u → cs[o + j]? = some u) : W.rangeAt b o ds := fun j u hj => blk_c h (by rw [List.getElem?_toArray]; exact hd j u hj)
theorem ml_cm (m : Ml) (x : Mx) : ∀ j u, (cmC m.cm x.cx)[j]? = some u → (mlC m x)[1 + j]? = some u := fun j u hj => by
  have e : mlC m x = .int .u8 m.kd :: (cmC m.cm x.cx ++ (mlC m x).drop 16) := rfl
  rw [e, Nat.add_comm, List.getElem?_cons_succ, List.getElem?_append_left (List.getElem?_eq_some_iff.1 hj).1]
  exact hj
set_option maxRecDepth 100000 in
set_option maxHeartbeats 4000000 in
theorem sameFace_any {w : World} {va vb : Value} {T : List Nd} {f0 f1 f3 : Int} (ha : Trd w va T) (hb : Trd w vb T) :
    Calls Try.prog 44 #[.agg #[.int .i64 f0, .int .i64 f1, va, .int .i64 f3], .agg #[.int .i64 f0, .int .i64 f1, vb, .int .i64 f3]] w fun e w' => e = .returned (.bool true) ∧ Below w.heap.size w w' := by
  obtain ⟨w0, hw0⟩ : ∃ w0, w0 = (w.alloc (.cells #[.int .i64 f0, .int .i64 f1, va, .int .i64 f3] 49)).alloc (.cells #[.int .i64 f0, .int .i64 f1, vb, .int .i64 f3] 49) := ⟨_, rfl⟩
  have s0 : TwoB w w0 49 #[.int .i64 f0, .int .i64 f1, va, .int .i64 f3] #[.int .i64 f0, .int .i64 f1, vb, .int .i64 f3] := by rw [hw0]; exact TwoB.start _ _ _ _
  have KT := hide (sameTree_eq (ha.bw s0.bel) (hb.bw s0.bel))
  obtain ⟨a, c, rfl⟩ := ha.slice
  obtain ⟨a', c', rfl⟩ := hb.slice
  generalize T.length = N at *
  have c0 : w0.cell? ⟨w.heap.size, 0, none⟩ = some (.int .i64 f0) := blk_c s0.k1 rfl
  have c1 : w0.cell? ⟨w.heap.size, 1, none⟩ = some (.int .i64 f1) := blk_c s0.k1 rfl
  have c2 : w0.cell? ⟨w.heap.size, 2, none⟩ = some (.slice a N c) := blk_c s0.k1 rfl
  have c3 : w0.cell? ⟨w.heap.size, 3, none⟩ = some (.int .i64 f3) := blk_c s0.k1 rfl
  have d0 : w0.cell? ⟨w.heap.size + 1, 0, none⟩ = some (.int .i64 f0) := blk_c s0.k2 rfl
  have d1 : w0.cell? ⟨w.heap.size + 1, 1, none⟩ = some (.int .i64 f1) := blk_c s0.k2 rfl
  have d2 : w0.cell? ⟨w.heap.size + 1, 2, none⟩ = some (.slice a' N c') := blk_c s0.k2 rfl
  have d3 : w0.cell? ⟨w.heap.size + 1, 3, none⟩ = some (.int .i64 f3) := blk_c s0.k2 rfl
  have HW := hide hw0
  have BL := hide s0.bel
  clear ha hb hw0 s0
  go_enter Try.func44, Try.ntmps44
  go_upto_region 1 with fail
  rw [← unhide HW]
  clear HW
  go_wp2_with fail
  refine (unhide KT).mono ?_
  rintro e w1 ⟨rfl, b1⟩
  clear c0 c1 c2 c3 d0 d1 d2 d3
  go_wp2_with fail
  go_ret
  exact ⟨rfl, bw_tr (unhide BL) b1⟩
set_option maxRecDepth 100000 in
set_option maxHeartbeats 8000000 in
theorem sameMail_any {w : World} {m : Ml} {x y : Mx} (hx : MlR w m x) (hy : MlR w m y) (hs : SmM m) :
    Calls Try.prog 27 #[.agg (mlC m x).toArray, .agg (mlC m y).toArray] w fun e w' => e = .returned (.bool true) ∧ Below w.heap.size w w' := by
  obtain ⟨w0, hw0⟩ : ∃ w0, w0 = (w.alloc (.cells (mlC m x).toArray 53)).alloc (.cells (mlC m y).toArray 53) := ⟨_, rfl⟩
  have s0 : TwoB w w0 53 (mlC m x).toArray (mlC m y).toArray := by rw [hw0]; exact TwoB.start _ _ _ _
  have KC := hide (samecm_any (hx.c.bw s0.bel) (hy.c.bw s0.bel))
  have KF : Hid (∀ W, Below w0.heap.size w0 W → Calls Try.prog 44 #[.agg #[.int .i64 m.f0, .int .i64 m.f1, x.tv, .int .i64 m.f3], .agg #[.int .i64 m.f0, .int .i64 m.f1, y.tv, .int .i64 m.f3]] W fun e w' => e = .returned (.bool true) ∧ Below W.heap.size W w') := fun W hW => sameFace_any (hx.t.bw (bw_tr s0.bel hW)) (hy.t.bw (bw_tr s0.bel hW))
  have hb := hs.b
  have he1 := fun W => equal_Cards W m.c0 m.c1 m.c2 (hb _ (by simp)) (hb _ (by simp)) (hb _ (by simp))
  have he2 := fun W => equal_Notes W m.n0 m.n1 m.n2 m.n3 m.n4 (hb _ (by simp)) (hb _ (by simp)) (hb _ (by simp)) (hb _ (by simp)) (hb _ (by simp))
  obtain ⟨ta, tc, eT⟩ := hx.t.slice
  obtain ⟨ta', tc', eT'⟩ := hy.t.slice
  have r1 : w0.rangeAt w.heap.size 1 (cmC m.cm x.cx) := blk_rng s0.k1 (ml_cm m x)
  have r2 : w0.rangeAt (w.heap.size + 1) 1 (cmC m.cm y.cx) := blk_rng s0.k2 (ml_cm m y)
  have c1 : w0.cell? ⟨w.heap.size, 1, none⟩ = some (.int .i64 m.cm.gr) := blk_c s0.k1 rfl
  have d1 : w0.cell? ⟨w.heap.size + 1, 1, none⟩ = some (.int .i64 m.cm.gr) := blk_c s0.k2 rfl
  have c2 : w0.cell? ⟨w.heap.size, 2, none⟩ = some (.int .i64 m.cm.ep) := blk_c s0.k1 rfl
  have d2 : w0.cell? ⟨w.heap.size + 1, 2, none⟩ = some (.int .i64 m.cm.ep) := blk_c s0.k2 rfl
  have c3 : w0.cell? ⟨w.heap.size, 3, none⟩ = some (.int .i64 m.cm.dev) := blk_c s0.k1 rfl
  have d3 : w0.cell? ⟨w.heap.size + 1, 3, none⟩ = some (.int .i64 m.cm.dev) := blk_c s0.k2 rfl
  have c4 : w0.cell? ⟨w.heap.size, 4, none⟩ = some (.int .i64 m.cm.mem) := blk_c s0.k1 rfl
  have d4 : w0.cell? ⟨w.heap.size + 1, 4, none⟩ = some (.int .i64 m.cm.mem) := blk_c s0.k2 rfl
  have c5 : w0.cell? ⟨w.heap.size, 5, none⟩ = some (.int .i64 m.cm.ke) := blk_c s0.k1 rfl
  have d5 : w0.cell? ⟨w.heap.size + 1, 5, none⟩ = some (.int .i64 m.cm.ke) := blk_c s0.k2 rfl
  have c6 : w0.cell? ⟨w.heap.size, 6, none⟩ = some (.bool m.cm.ext) := blk_c s0.k1 rfl
  have d6 : w0.cell? ⟨w.heap.size + 1, 6, none⟩ = some (.bool m.cm.ext) := blk_c s0.k2 rfl
  have c7 : w0.cell? ⟨w.heap.size, 7, none⟩ = some (x.cx.av) := blk_c s0.k1 rfl
  have d7 : w0.cell? ⟨w.heap.size + 1, 7, none⟩ = some (y.cx.av) := blk_c s0.k2 rfl
  have c8 : w0.cell? ⟨w.heap.size, 8, none⟩ = some (x.cx.rv) := blk_c s0.k1 rfl
  have d8 : w0.cell? ⟨w.heap.size + 1, 8, none⟩ = some (y.cx.rv) := blk_c s0.k2 rfl
  have c9 : w0.cell? ⟨w.heap.size, 9, none⟩ = some (x.cx.qv) := blk_c s0.k1 rfl
  have d9 : w0.cell? ⟨w.heap.size + 1, 9, none⟩ = some (y.cx.qv) := blk_c s0.k2 rfl
  have c10 : w0.cell? ⟨w.heap.size, 10, none⟩ = some (x.cx.jv) := blk_c s0.k1 rfl
  have d10 : w0.cell? ⟨w.heap.size + 1, 10, none⟩ = some (y.cx.jv) := blk_c s0.k2 rfl
  have c11 : w0.cell? ⟨w.heap.size, 11, none⟩ = some (.int .i64 m.cm.own) := blk_c s0.k1 rfl
  have d11 : w0.cell? ⟨w.heap.size + 1, 11, none⟩ = some (.int .i64 m.cm.own) := blk_c s0.k2 rfl
  have c12 : w0.cell? ⟨w.heap.size, 12, none⟩ = some (.int .i64 m.cm.ent) := blk_c s0.k1 rfl
  have d12 : w0.cell? ⟨w.heap.size + 1, 12, none⟩ = some (.int .i64 m.cm.ent) := blk_c s0.k2 rfl
  have c13 : w0.cell? ⟨w.heap.size, 13, none⟩ = some (x.cx.nv) := blk_c s0.k1 rfl
  have d13 : w0.cell? ⟨w.heap.size + 1, 13, none⟩ = some (y.cx.nv) := blk_c s0.k2 rfl
  have c14 : w0.cell? ⟨w.heap.size, 14, none⟩ = some (.int .i64 m.cm.face) := blk_c s0.k1 rfl
  have d14 : w0.cell? ⟨w.heap.size + 1, 14, none⟩ = some (.int .i64 m.cm.face) := blk_c s0.k2 rfl
  have c15 : w0.cell? ⟨w.heap.size, 15, none⟩ = some (.int .i64 m.cm.card) := blk_c s0.k1 rfl
  have d15 : w0.cell? ⟨w.heap.size + 1, 15, none⟩ = some (.int .i64 m.cm.card) := blk_c s0.k2 rfl
  have c0 : w0.cell? ⟨w.heap.size, 0, none⟩ = some (.int .u8 m.kd) := blk_c s0.k1 rfl
  have d0 : w0.cell? ⟨w.heap.size + 1, 0, none⟩ = some (.int .u8 m.kd) := blk_c s0.k2 rfl
  have c16 : w0.cell? ⟨w.heap.size, 16, none⟩ = some (.int .i64 m.gr) := blk_c s0.k1 rfl
  have d16 : w0.cell? ⟨w.heap.size + 1, 16, none⟩ = some (.int .i64 m.gr) := blk_c s0.k2 rfl
  have c17 : w0.cell? ⟨w.heap.size, 17, none⟩ = some (.int .i64 m.ep) := blk_c s0.k1 rfl
  have d17 : w0.cell? ⟨w.heap.size + 1, 17, none⟩ = some (.int .i64 m.ep) := blk_c s0.k2 rfl
  have c18 : w0.cell? ⟨w.heap.size, 18, none⟩ = some (.int .i64 m.c0) := blk_c s0.k1 rfl
  have d18 : w0.cell? ⟨w.heap.size + 1, 18, none⟩ = some (.int .i64 m.c0) := blk_c s0.k2 rfl
  have c19 : w0.cell? ⟨w.heap.size, 19, none⟩ = some (.int .i64 m.c1) := blk_c s0.k1 rfl
  have d19 : w0.cell? ⟨w.heap.size + 1, 19, none⟩ = some (.int .i64 m.c1) := blk_c s0.k2 rfl
  have c20 : w0.cell? ⟨w.heap.size, 20, none⟩ = some (.int .i64 m.c2) := blk_c s0.k1 rfl
  have d20 : w0.cell? ⟨w.heap.size + 1, 20, none⟩ = some (.int .i64 m.c2) := blk_c s0.k2 rfl
  have c25 : w0.cell? ⟨w.heap.size, 25, none⟩ = some (.int .i64 m.n0) := blk_c s0.k1 rfl
  have d25 : w0.cell? ⟨w.heap.size + 1, 25, none⟩ = some (.int .i64 m.n0) := blk_c s0.k2 rfl
  have c26 : w0.cell? ⟨w.heap.size, 26, none⟩ = some (.int .i64 m.n1) := blk_c s0.k1 rfl
  have d26 : w0.cell? ⟨w.heap.size + 1, 26, none⟩ = some (.int .i64 m.n1) := blk_c s0.k2 rfl
  have c27 : w0.cell? ⟨w.heap.size, 27, none⟩ = some (.int .i64 m.n2) := blk_c s0.k1 rfl
  have d27 : w0.cell? ⟨w.heap.size + 1, 27, none⟩ = some (.int .i64 m.n2) := blk_c s0.k2 rfl
  have c28 : w0.cell? ⟨w.heap.size, 28, none⟩ = some (.int .i64 m.n3) := blk_c s0.k1 rfl
  have d28 : w0.cell? ⟨w.heap.size + 1, 28, none⟩ = some (.int .i64 m.n3) := blk_c s0.k2 rfl
  have c29 : w0.cell? ⟨w.heap.size, 29, none⟩ = some (.int .i64 m.n4) := blk_c s0.k1 rfl
  have d29 : w0.cell? ⟨w.heap.size + 1, 29, none⟩ = some (.int .i64 m.n4) := blk_c s0.k2 rfl
  have HF : Hid (∀ W, Below w0.heap.size w0 W → W.cell? ⟨w.heap.size, 21, none⟩ = some (.int .i64 m.f0) ∧ W.cell? ⟨w.heap.size + 1, 21, none⟩ = some (.int .i64 m.f0) ∧ W.cell? ⟨w.heap.size, 22, none⟩ = some (.int .i64 m.f1) ∧ W.cell? ⟨w.heap.size + 1, 22, none⟩ = some (.int .i64 m.f1) ∧ W.cell? ⟨w.heap.size, 23, none⟩ = some (x.tv) ∧ W.cell? ⟨w.heap.size + 1, 23, none⟩ = some (y.tv) ∧ W.cell? ⟨w.heap.size, 24, none⟩ = some (.int .i64 m.f3) ∧ W.cell? ⟨w.heap.size + 1, 24, none⟩ = some (.int .i64 m.f3)) := fun W hW => by
    have q1 := kept_b s0.k1 (lt_of_blk s0.k1) hW
    have q2 := kept_b s0.k2 (lt_of_blk s0.k2) hW
    exact ⟨blk_c q1 rfl, blk_c q2 rfl, blk_c q1 rfl, blk_c q2 rfl, blk_c q1 rfl, blk_c q2 rfl, blk_c q1 rfl, blk_c q2 rfl⟩
  obtain ⟨sa1, sk1, e1⟩ := hx.c.adds.slice
  obtain ⟨sa2, sk2, e2⟩ := nums_slice hx.c.rem
  obtain ⟨sa3, sk3, e3⟩ := hx.c.seals.slice
  obtain ⟨sa4, sk4, e4⟩ := hx.c.joins.slice
  obtain ⟨sa5, sk5, e5⟩ := hx.c.next.slice
  obtain ⟨ta1, tk1, e6⟩ := hy.c.adds.slice
  obtain ⟨ta2, tk2, e7⟩ := nums_slice hy.c.rem
  obtain ⟨ta3, tk3, e8⟩ := hy.c.seals.slice
  obtain ⟨ta4, tk4, e9⟩ := hy.c.joins.slice
  obtain ⟨ta5, tk5, e10⟩ := hy.c.next.slice
  have HW := hide hw0
  have BL := hide s0.bel
  obtain ⟨CX, hCX⟩ : ∃ z, z = mlC m x := ⟨_, rfl⟩
  obtain ⟨CY, hCY⟩ : ∃ z, z = mlC m y := ⟨_, rfl⟩
  rw [← hCX, ← hCY] at HW ⊢
  clear hx hy hs hb hw0 s0 r1 r2 hCX hCY
  obtain ⟨kd, ⟨q0, q1, q2, q3, q4, q5, adds, rem, seals, joins, q10, q11, next, q13, q14⟩, gr, ep, c0_, c1_, c2_, f0, f1, tr, f3, n0, n1, n2, n3, n4⟩ := m
  obtain ⟨⟨av, rv, qv, jv, nv⟩, us, tv, ts⟩ := x
  obtain ⟨⟨av', rv', qv', jv', nv'⟩, us', tv', ts'⟩ := y
  unfold cmV cmC at KC
  simp only at *
  subst e1 e2 e3 e4 e5 e6 e7 e8 e9 e10 eT eT'
  generalize tr.length = N at *
  generalize adds.length = NA at *
  generalize rem.length = NR at *
  generalize seals.length = NQ at *
  generalize joins.length = NJ at *
  generalize next.length = NN at *
  go_enter Try.func27, Try.ntmps27
  go_upto_region 1 with fail
  rw [← unhide HW]
  clear HW
  go_wp2_with fail
  refine (unhide KC).mono ?_
  rintro e w1 ⟨rfl, b1⟩
  obtain ⟨x0, y0, x1, y1, x2, y2, x3, y3⟩ := unhide HF w1 b1
  clear c0 d0 c16 d16 c17 d17 c18 d18 c19 d19 c20 d20 c25 d25 c26 d26 c27 d27 c28 d28 c29 d29 c1 d1 c2 d2 c3 d3 c4 d4 c5 d5 c6 d6 c7 d7 c8 d8 c9 d9 c10 d10 c11 d11 c12 d12 c13 d13 c14 d14 c15 d15
  go_wp2_with fail
  refine (unhide KF w1 b1).mono ?_
  rintro e w2 ⟨rfl, b2⟩
  clear x0 y0 x1 y1 x2 y2 x3 y3
  go_wp2_with fail
  go_ret
  exact ⟨rfl, bw_tr (bw_tr (unhide BL) b1) b2⟩
set_option maxRecDepth 100000 in
set_option maxHeartbeats 4000000 in
theorem sameMails_any {w : World} {va vb : Value} {l : List Ml} {xs ys : List Mx} (ha : RdL kMl w va l xs) (hb : RdL kMl w vb l ys) (hl : l.length ≤ 140737488355328) :
    Calls Try.prog 13 #[va, vb] w fun e w' => e = .returned (.bool true) ∧ Below w.heap.size w w' := by
  obtain ⟨a, ca, rfl⟩ := rdl_slice ha
  obtain ⟨b, cb, rfl⟩ := rdl_slice hb
  obtain ⟨N, hN⟩ : ∃ N, N = l.length := ⟨_, rfl⟩
  rw [← hN] at ha hb hl ⊢
  have hNb : (N : Int) ≤ 140737488355328 := by omega
  have HH := hide (And.intro ha (And.intro hb hN))
  clear ha hb hN hl
  go_enter Try.func13, Try.ntmps13
  go_wp2_with fail
  go_loopw [13] (fun iv wr => ∃ i : Nat, iv = .int .i64 i ∧ i ≤ N ∧ Hid (Below w.heap.size w wr)) (fun iv _ => (N - (intOf iv)).toNat)
  case atStart => exact ⟨0, rfl, by omega, Below.refl _ _⟩
  case round =>
    obtain ⟨i, rfl, hi, hbel⟩ := hrel
    by_cases hin : i < N
    · obtain ⟨ha, hb, hN⟩ := unhide HH
      obtain ⟨m, hm⟩ : ∃ z, l[i]? = some z := ⟨_, List.getElem?_eq_getElem (by omega)⟩
      have bd : Below wr.heap.size wr wr.drew := (Below.refl _ _).drew
      obtain ⟨g, o, x, rfl, _, hR1, hc1⟩ := (ha.bw (bw_tr (unhide hbel) bd)).get hm
      obtain ⟨g', o', y, rfl, _, hR2, hc2⟩ := (hb.bw (bw_tr (unhide hbel) bd)).get hm
      have KS := hide (sameMail_any hR1.1 hR2.1 hR1.2)
      obtain ⟨CX, hCX⟩ : ∃ z, z = mlC m x := ⟨_, rfl⟩
      obtain ⟨CY, hCY⟩ : ∃ z, z = mlC m y := ⟨_, rfl⟩
      have hlx : CX.length = 30 := by rw [hCX]; rfl
      have hly : CY.length = 30 := by rw [hCY]; rfl
      have r1 : wr.drew.rangeAt g (o + i * 30) CX := by rw [hCX]; exact hc1
      have r2 : wr.drew.rangeAt g' (o' + i * 30) CY := by rw [hCY]; exact hc2
      rw [← hCX, ← hCY] at KS
      have hb2 := fun W hW => bw_tr (bw_tr (unhide hbel) bd) (hW : Below wr.drew.heap.size wr.drew W)
      have HB := hide hb2
      have S0 : wr.drew.rangeAt g (o + i * 30) CX ∧ wr.drew.rangeAt g' (o' + i * 30) CY := ⟨r1, r2⟩
      have HK : Hid (∀ W, Below wr.drew.heap.size wr.drew W → W.rangeAt g (o + i * 30) CX ∧ W.rangeAt g' (o' + i * 30) CY) := fun W hW => ⟨fun j u hj => by rw [hW.cell (lt_of_cell (r1 j u hj))]; exact r1 j u hj, fun j u hj => by rw [hW.cell (lt_of_cell (r2 j u hj))]; exact r2 j u hj⟩
      have hu := Try.underlying53
      have hi1 : (Try.prog.info? 53).map (·.size) = some CX.length := by rw [hlx]; exact infoMlS
      have hi2 : (Try.prog.info? 53).map (·.size) = some CY.length := by rw [hly]; exact infoMlS
      have hiI : (i : Int) < (N : Int) := by omega
      have h0 : (0 : Int) ≤ (i : Int) := by omega
      clear hCX hCY hlx hly r1 r2 hc1 hc2 hR1 hR2 ha hb hN hm hb2
      go_upto_region 6 with fail
      refine wp_region_held_drew (S := fun w' : World => w'.rangeAt g (o + i * 30) CX ∧ w'.rangeAt g' (o' + i * 30) CY) (by kernel_rfl) S0 (fun hHeld => ?_)
      refine wpAnyH_take (i := 0) (oi := { dst := some 16, op := Op.move (Operand.tmp 0), type := 23, pos := "twin.go:1063", after := #[], guard := none }) (v := ?v0) rfl (by kernel_rfl) (by kernel_rfl) (by kernel_rfl) (fun _ _ _ h => h) (Or.inl ⟨by rfl, ?hy0⟩) (by exact hHeld) ?_
      case hy0 => (intro w hSw; (try dsimp only at hSw); go_simp; try (with_reducible rfl))
      try simp only [Act.put, List.setIfInBounds_toArray, List.set_cons_zero, List.set_cons_succ]
      refine wpAnyH_take (i := 1) (oi := { dst := some 17, op := Op.move (Operand.tmp 5), type := 3, pos := "twin.go:1063", after := #[], guard := none }) (v := ?v1) rfl (by kernel_rfl) (by kernel_rfl) (by kernel_rfl) (fun _ _ _ h => h) (Or.inl ⟨by rfl, ?hy1⟩) (by exact hHeld) ?_
      case hy1 => (intro w hSw; (try dsimp only at hSw); go_simp; try (with_reducible rfl))
      try simp only [Act.put, List.setIfInBounds_toArray, List.set_cons_zero, List.set_cons_succ]
      refine wpAnyH_take (i := 2) (oi := { dst := some 18, op := Op.indexAddr 23 (Operand.tmp 16) (Operand.tmp 17), type := 0, pos := "twin.go:1063", after := #[{ on := 0, ground := Ground.data }, { on := 1, ground := Ground.data }], guard := none }) (v := ?v2) rfl (by kernel_rfl) (by kernel_rfl) (by kernel_rfl) (fun _ _ _ h => h) (Or.inl ⟨by rfl, ?hy2⟩) (by exact hHeld) ?_
      case hy2 => (intro w hSw; (try dsimp only at hSw); go_simp; try (with_reducible rfl))
      try simp only [Act.put, List.setIfInBounds_toArray, List.set_cons_zero, List.set_cons_succ]
      refine wpAnyH_take (i := 3) (oi := { dst := some 19, op := Op.load 53 (Operand.tmp 18), type := 53, pos := "twin.go:1063", after := #[{ on := 2, ground := Ground.data }], guard := none }) (v := .agg CX.toArray) rfl (by kernel_rfl) (by kernel_rfl) (by kernel_rfl) (fun _ _ _ h => h) (yieldsIf_load_mid (by rfl) 53 (.tmp 18) rfl g (o + i * 30) (by simp [Act.eval]) CX _ (fun w h => h.1) hu rfl hi1) (by exact hHeld) ?_
      try simp only [Act.put, List.setIfInBounds_toArray, List.set_cons_zero, List.set_cons_succ]
      refine wpAnyH_take (i := 4) (oi := { dst := some 20, op := Op.move (Operand.tmp 1), type := 23, pos := "twin.go:1063", after := #[], guard := none }) (v := ?v4) rfl (by kernel_rfl) (by kernel_rfl) (by kernel_rfl) (fun _ _ _ h => h) (Or.inl ⟨by rfl, ?hy4⟩) (by exact hHeld) ?_
      case hy4 => (intro w hSw; (try dsimp only at hSw); go_simp; try (with_reducible rfl))
      try simp only [Act.put, List.setIfInBounds_toArray, List.set_cons_zero, List.set_cons_succ]
      refine wpAnyH_take (i := 5) (oi := { dst := some 21, op := Op.move (Operand.tmp 5), type := 3, pos := "twin.go:1063", after := #[], guard := none }) (v := ?v5) rfl (by kernel_rfl) (by kernel_rfl) (by kernel_rfl) (fun _ _ _ h => h) (Or.inl ⟨by rfl, ?hy5⟩) (by exact hHeld) ?_
      case hy5 => (intro w hSw; (try dsimp only at hSw); go_simp; try (with_reducible rfl))
      try simp only [Act.put, List.setIfInBounds_toArray, List.set_cons_zero, List.set_cons_succ]
      refine wpAnyH_take (i := 6) (oi := { dst := some 22, op := Op.indexAddr 23 (Operand.tmp 20) (Operand.tmp 21), type := 0, pos := "twin.go:1063", after := #[{ on := 4, ground := Ground.data }, { on := 5, ground := Ground.data }], guard := none }) (v := ?v6) rfl (by kernel_rfl) (by kernel_rfl) (by kernel_rfl) (fun _ _ _ h => h) (Or.inl ⟨by rfl, ?hy6⟩) (by exact hHeld) ?_
      case hy6 => (intro w hSw; (try dsimp only at hSw); go_simp; try (with_reducible rfl))
      try simp only [Act.put, List.setIfInBounds_toArray, List.set_cons_zero, List.set_cons_succ]
      refine wpAnyH_take (i := 7) (oi := { dst := some 23, op := Op.load 53 (Operand.tmp 22), type := 53, pos := "twin.go:1063", after := #[{ on := 6, ground := Ground.data }], guard := none }) (v := .agg CY.toArray) rfl (by kernel_rfl) (by kernel_rfl) (by kernel_rfl) (fun _ _ _ h => h) (yieldsIf_load_mid (by rfl) 53 (.tmp 22) rfl g' (o' + i * 30) (by simp [Act.eval]) CY _ (fun w h => h.2) hu rfl hi2) (by exact hHeld) ?_
      try simp only [Act.put, List.setIfInBounds_toArray, List.set_cons_zero, List.set_cons_succ]
      refine wpAnyH_ready (rs := [8]) (by kernel_rfl) (by simp) ?_
      refine AllReadyH.cons (o := { dst := some 24, op := Op.call { callee := Callee.value (Operand.func 27), args := #[Operand.tmp 19, Operand.tmp 23], argTypes := #[53, 53] }, type := 4, pos := "twin.go:1063", after := #[{ on := 3, ground := Ground.data }, { on := 7, ground := Ground.data }], guard := none }) rfl (fun K hK => ?_) AllReadyH.nil
      go_simp
      go_at_call 27
      refine (unhide KS).mono ?_
      rintro e z1 ⟨rfl, b1⟩
      have S1 := unhide HK z1 b1
      have B1 := hide (unhide HB z1 b1)
      go_wp2_with fail
      refine hK.out _ _ S1 (fun _ => ?_)
      clear hK K
      try simp only [Act.put, List.setIfInBounds_toArray, List.set_cons_zero, List.set_cons_succ]
      refine wpAnyH_take (i := 9) (oi := { dst := some 25, op := Op.unOp UnOp.not 4 (Operand.tmp 24), type := 4, pos := "twin.go:1063", after := #[{ on := 8, ground := Ground.data }], guard := none }) (v := ?v9) rfl (by kernel_rfl) (by kernel_rfl) (by kernel_rfl) (fun _ _ _ h => h) (Or.inl ⟨by rfl, ?hy9⟩) (by exact S1) ?_
      case hy9 => (intro w hSw; (try dsimp only at hSw); go_simp; try (with_reducible rfl))
      try simp only [Act.put, List.setIfInBounds_toArray, List.set_cons_zero, List.set_cons_succ]
      refine wpAnyH_done (by kernel_rfl) ?_ _
      clear hu hi1 hi2
      clear S0 S1 b1
      go_wp2_with fail
      go_roundw
      case rel => exact ⟨i + 1, by go_num, by omega, B1⟩
      case measure => simp only [intOf]; omega
    · obtain rfl : i = N := by omega
      go_wp2_with fail
      go_ret
      exact ⟨rfl, unhide hbel⟩
end Go.Proofs.Ytnimdnoemmodaaa

/- How great a mail, mails, boxes are: MailSize, MailsSize, size. -/
namespace Go.Proofs.Ytnimdnoemmodaaa
open Go.RowKit Go.Maps
def mlN (m : Ml) : Nat := cmN m.cm + (m.tr.length + usum m.tr)
def msN (l : List Ml) : Nat := (l.map mlN).foldr (· + ·) 0
def bxN (b : Bx) : Nat := b.ml.length + msN b.ml
def bsN (l : List Bx) : Nat := (l.map bxN).foldr (· + ·) 0
theorem msN_take {l : List Ml} {i : Nat} {m : Ml} (h : l[i]? = some m) : msN (l.take (i + 1)) = msN (l.take i) + mlN m := by
  unfold msN
  rw [List.take_add_one, h, List.map_append]
  exact sum_snoc _ _
theorem bsN_take {l : List Bx} {i : Nat} {b : Bx} (h : l[i]? = some b) : bsN (l.take (i + 1)) = bsN (l.take i) + bxN b := by
  unfold bsN
  rw [List.take_add_one, h, List.map_append]
  exact sum_snoc _ _
set_option maxRecDepth 100000 in
set_option maxHeartbeats 4000000 in
theorem mlsize_any {w : World} {m : Ml} {x : Mx} (h : MlR w m x) :
    Calls Try.prog 14 #[.agg (mlC m x).toArray] w fun e w' => ∃ n : Nat, e = .returned (.int .i64 (n : Int)) ∧ n ≤ 3377699720527872 ∧ (n ≤ 262144 → n = mlN m) ∧ Below w.heap.size w w' := by
  obtain ⟨w0, hw0⟩ : ∃ w0, w0 = w.alloc (.cells (mlC m x).toArray 53) := ⟨_, rfl⟩
  have bl : Below w.heap.size w w0 := by rw [hw0]; exact bwA _ _
  have kk : w0.heap[w.heap.size]? = some (.cells (mlC m x).toArray 53 (0, 0)) := by rw [hw0]; exact heap_alloc_new _ _
  have bd : Below w0.heap.size w0 w0.drew := (Below.refl _ _).drew
  have KC : Calls Try.prog 28 #[.agg (cmC m.cm x.cx).toArray] w0.drew fun e w' => ∃ n : Nat, e = .returned (.int .i64 (n : Int)) ∧ n ≤ 2251799813685248 ∧ (n ≤ 262144 → n = cmN m.cm) ∧ Below w0.heap.size w0 w' := by
    refine Calls.mono (cmsize_any (h.c.bw (bw_tr bl bd))) ?_
    rintro e w' ⟨n, q1, q2, q3, q4⟩
    exact ⟨n, q1, q2, q3, bw_tr bd q4⟩
  have KT : Hid (∀ W, Below w0.heap.size w0 W → Calls Try.prog 29 #[.agg #[x.tv]] W fun e w' => ∃ n : Nat, e = .returned (.int .i64 (n : Int)) ∧ n ≤ 1125899906842624 ∧ (n ≤ 262144 → n = m.tr.length + usum m.tr) ∧ Below w0.heap.size w0 w') := fun W hW => by
    refine Calls.mono (treeSize2_any (h.t.bw (bw_tr bl hW))) ?_
    rintro e w' ⟨n, q1, q2, q3, q4⟩
    exact ⟨n, q1, q2, q3, bw_tr hW q4⟩
  obtain ⟨a1, k1, e1⟩ := h.c.adds.slice
  obtain ⟨a2, k2, e2⟩ := nums_slice h.c.rem
  obtain ⟨a3, k3, e3⟩ := h.c.seals.slice
  obtain ⟨a4, k4, e4⟩ := h.c.joins.slice
  obtain ⟨a5, k5, e5⟩ := h.c.next.slice
  obtain ⟨a6, k6, e6⟩ := h.t.slice
  have HN : Hid (mlN m = cmN m.cm + (m.tr.length + usum m.tr)) := rfl
  obtain ⟨CX, hCX⟩ : ∃ z, z = mlC m x := ⟨_, rfl⟩
  obtain ⟨MN, hMN⟩ : ∃ z, z = mlN m := ⟨_, rfl⟩
  obtain ⟨CN, hCN⟩ : ∃ z, z = cmN m.cm := ⟨_, rfl⟩
  obtain ⟨TN, hTN⟩ : ∃ z, z = m.tr.length + usum m.tr := ⟨_, rfl⟩
  rw [← hTN] at KT HN
  rw [← hCN] at KC HN
  rw [← hMN] at HN ⊢
  have HW := hide hw0
  rw [← hCX] at HW ⊢
  clear h hw0 hCX hMN hCN hTN
  obtain ⟨g0, ⟨g1, g2, g3, g4, g5, g6, adds, rem, seals, joins, g11, g12, next, g14, g15⟩, g16, g17, g18, g19, g20, g21, g22, tr, g24, g25, g26, g27, g28, g29⟩ := m
  obtain ⟨⟨av, rv, qv, jv, nv⟩, us, tv, ts⟩ := x
  unfold cmC at KC
  simp only at KC KT e1 e2 e3 e4 e5 e6 kk
  obtain ⟨LN, hLN⟩ : ∃ z, z = next.length := ⟨_, rfl⟩
  obtain ⟨LA, hLA⟩ : ∃ z, z = adds.length := ⟨_, rfl⟩
  obtain ⟨LR, hLR⟩ : ∃ z, z = rem.length := ⟨_, rfl⟩
  obtain ⟨LQ, hLQ⟩ : ∃ z, z = seals.length := ⟨_, rfl⟩
  obtain ⟨LJ, hLJ⟩ : ∃ z, z = joins.length := ⟨_, rfl⟩
  obtain ⟨LT, hLT⟩ : ∃ z, z = tr.length := ⟨_, rfl⟩
  rw [← hLA] at e1
  rw [← hLR] at e2
  rw [← hLQ] at e3
  rw [← hLJ] at e4
  rw [← hLN] at e5
  rw [← hLT] at e6
  clear hLN hLA hLR hLQ hLJ hLT
  subst e1 e2 e3 e4 e5 e6
  have KC : Hid (Calls Try.prog 28 #[.agg #[.int .i64 g1, .int .i64 g2, .int .i64 g3, .int .i64 g4, .int .i64 g5, .bool g6, .slice a1 LA k1, .slice a2 LR k2, .slice a3 LQ k3, .slice a4 LJ k4, .int .i64 g11, .int .i64 g12, .slice a5 LN k5, .int .i64 g14, .int .i64 g15]] w0.drew fun e w' => ∃ n : Nat, e = .returned (.int .i64 (n : Int)) ∧ n ≤ 2251799813685248 ∧ (n ≤ 262144 → n = CN) ∧ Below w0.heap.size w0 w') := KC
  have HS : Hid (∀ W, Below w0.heap.size w0 W → (W.cell? ⟨w.heap.size, 1, none⟩ = some (.int .i64 g1) ∧ W.cell? ⟨w.heap.size, 2, none⟩ = some (.int .i64 g2) ∧ W.cell? ⟨w.heap.size, 3, none⟩ = some (.int .i64 g3) ∧ W.cell? ⟨w.heap.size, 4, none⟩ = some (.int .i64 g4) ∧ W.cell? ⟨w.heap.size, 5, none⟩ = some (.int .i64 g5) ∧ W.cell? ⟨w.heap.size, 6, none⟩ = some (.bool g6) ∧ W.cell? ⟨w.heap.size, 7, none⟩ = some (.slice a1 LA k1) ∧ W.cell? ⟨w.heap.size, 8, none⟩ = some (.slice a2 LR k2) ∧ W.cell? ⟨w.heap.size, 9, none⟩ = some (.slice a3 LQ k3) ∧ W.cell? ⟨w.heap.size, 10, none⟩ = some (.slice a4 LJ k4) ∧ W.cell? ⟨w.heap.size, 11, none⟩ = some (.int .i64 g11) ∧ W.cell? ⟨w.heap.size, 12, none⟩ = some (.int .i64 g12) ∧ W.cell? ⟨w.heap.size, 13, none⟩ = some (.slice a5 LN k5) ∧ W.cell? ⟨w.heap.size, 14, none⟩ = some (.int .i64 g14) ∧ W.cell? ⟨w.heap.size, 15, none⟩ = some (.int .i64 g15) ∧ W.cell? ⟨w.heap.size, 23, none⟩ = some (.slice a6 LT k6)) ∧ Below w.heap.size w W) := fun W hW => by
    have k := kept_b kk (lt_of_blk kk) hW
    exact ⟨⟨blk_c k rfl, blk_c k rfl, blk_c k rfl, blk_c k rfl, blk_c k rfl, blk_c k rfl, blk_c k rfl, blk_c k rfl, blk_c k rfl, blk_c k rfl, blk_c k rfl, blk_c k rfl, blk_c k rfl, blk_c k rfl, blk_c k rfl, blk_c k rfl⟩, bw_tr bl hW⟩
  have S0 := (unhide HS w0 (Below.refl _ _)).1
  have S00 := (unhide HS w0.drew bd).1
  clear bl kk bd
  go_enter Try.func14, Try.ntmps14
  go_upto_region 1 with fail
  rw [← unhide HW]
  clear HW
  go_region_held3 (fun w' : World => w'.cell? ⟨w.heap.size, 1, none⟩ = some (.int .i64 g1) ∧ w'.cell? ⟨w.heap.size, 2, none⟩ = some (.int .i64 g2) ∧ w'.cell? ⟨w.heap.size, 3, none⟩ = some (.int .i64 g3) ∧ w'.cell? ⟨w.heap.size, 4, none⟩ = some (.int .i64 g4) ∧ w'.cell? ⟨w.heap.size, 5, none⟩ = some (.int .i64 g5) ∧ w'.cell? ⟨w.heap.size, 6, none⟩ = some (.bool g6) ∧ w'.cell? ⟨w.heap.size, 7, none⟩ = some (.slice a1 LA k1) ∧ w'.cell? ⟨w.heap.size, 8, none⟩ = some (.slice a2 LR k2) ∧ w'.cell? ⟨w.heap.size, 9, none⟩ = some (.slice a3 LQ k3) ∧ w'.cell? ⟨w.heap.size, 10, none⟩ = some (.slice a4 LJ k4) ∧ w'.cell? ⟨w.heap.size, 11, none⟩ = some (.int .i64 g11) ∧ w'.cell? ⟨w.heap.size, 12, none⟩ = some (.int .i64 g12) ∧ w'.cell? ⟨w.heap.size, 13, none⟩ = some (.slice a5 LN k5) ∧ w'.cell? ⟨w.heap.size, 14, none⟩ = some (.int .i64 g14) ∧ w'.cell? ⟨w.heap.size, 15, none⟩ = some (.int .i64 g15) ∧ w'.cell? ⟨w.heap.size, 23, none⟩ = some (.slice a6 LT k6)) (first | with_reducible exact S0 | with_reducible exact S00 | with_reducible exact S1 | with_reducible exact S2) (first
    | (go_at_call 28; refine (unhide KC).mono ?_; rintro e z1 ⟨n, rfl, hn1, hn2, b1⟩; obtain ⟨S1, B1⟩ := unhide HS z1 b1; have K2 := hide (unhide KT z1 b1))
    | (go_at_call 29; refine (unhide K2).mono ?_; rintro e z2 ⟨n2, rfl, hm1, hm2, b2⟩; obtain ⟨S2, B2⟩ := unhide HS z2 b2; have hv : IntKind.i64.wrap ((n : Int) + (n2 : Int)) = ((n + n2 : Nat) : Int) := (by rw [wrap_id (by omega)]; omega)))
  all_goals
    go_wp2_with fail
    go_ret
    refine ⟨n + n2, ?_, by omega, fun hq => ?_, B2⟩
    · first | rfl | (simp [hv])
    · have := hn2 (by omega)
      have := hm2 (by omega)
      have := unhide HN
      omega
set_option maxRecDepth 100000 in
set_option maxHeartbeats 4000000 in
theorem mlssize_any {w : World} {v : Value} {l : List Ml} {xs : List Mx} (hx : xs.length = l.length) (hl : l.length ≤ 140737488355328) (hf : ∃ ad cap, v = .slice ad l.length cap ∧ (l = [] ∨ ∃ g o, ad = some ⟨g, o, none⟩ ∧ ∀ j u, (cellK kMl l xs)[j]? = some u → w.cell? ⟨g, o + j, none⟩ = some u)) (he : ∀ (i : Nat) (m : Ml) (x : Mx), l[i]? = some m → xs[i]? = some x → MlR w m x) :
    Calls Try.prog 7 #[v] w fun e w' => ∃ n : Nat, e = .returned (.int .i64 (n : Int)) ∧ n ≤ 4503599627370496 ∧ (n ≤ 262144 → n = l.length + msN l) ∧ Below w.heap.size w w' := by
  obtain ⟨a, cap, rfl, hc⟩ := hf
  have HC : Hid (∀ (wr : World) (i : Nat), Below w.heap.size w wr → i < l.length → ∃ (m : Ml) (cs : List Value) (g o : Nat), a = some ⟨g, o, none⟩ ∧ l[i]? = some m ∧ cs.length = 30 ∧ wr.rangeAt g (o + i * 30) cs ∧ Calls Try.prog 14 #[.agg cs.toArray] wr fun e w' => ∃ n : Nat, e = .returned (.int .i64 (n : Int)) ∧ n ≤ 3377699720527872 ∧ (n ≤ 262144 → n = mlN m) ∧ Below wr.heap.size wr w') := fun wr i hb hi => by
    have h1 : l[i]? = some l[i] := List.getElem?_eq_getElem hi
    have h2 : xs[i]? = some (xs[i]'(by rw [hx]; exact hi)) := List.getElem?_eq_getElem _
    rcases hc with c | ⟨g, o, rfl, hc⟩
    · rw [c] at hi; simp at hi
    · refine ⟨l[i], mlC l[i] (xs[i]'(by rw [hx]; exact hi)), g, o, rfl, h1, rfl, fun j u hj => ?_, mlsize_any ((he i _ _ h1 h2).bw hb)⟩
      have := hc _ _ (cellK_get (K := kMl) h1 h2 hj)
      rw [show o + i * 30 + j = o + (i * 30 + j) from Nat.add_assoc _ _ _]
      have this : w.cell? ⟨g, o + (i * 30 + j), none⟩ = some u := this
      rw [hb.cell (lt_of_cell this)]
      exact this
  obtain ⟨N, hN⟩ : ∃ N, N = l.length := ⟨_, rfl⟩
  rw [← hN] at hl HC ⊢
  have hNI : (N : Int) ≤ 140737488355328 := by omega
  obtain ⟨G, hG⟩ : ∃ G, G = N + msN l := ⟨_, rfl⟩
  rw [← hG]
  have HG := hide hG
  have HL := hide hN
  clear hx hc he hN hl hG
  go_enter Try.func7, Try.ntmps7
  go_wp2_with fail
  go_loopw [3, 4] (fun nv iv wr => ∃ (i n : Nat), i ≤ N ∧ iv = .int .i64 (i : Int) ∧ nv = .int .i64 (n : Int) ∧ n ≤ 262144 + 140737488355328 + 3377699720527872 ∧ Hid (Below w.heap.size w wr ∧ (n ≤ 262144 → n = N + msN (l.take i)))) (fun _ iv _ => (N - intOf iv).toNat)
  case atStart => exact ⟨0, N, Nat.zero_le _, rfl, rfl, by omega, Below.refl _ _, fun _ => by simp [msN]⟩
  case round =>
    obtain ⟨i, n, hi, rfl, rfl, hn, HR⟩ := hrel
    have hnI : (n : Int) ≤ 9007199254740992 := by omega
    by_cases hlt : i < N
    · have hiI : (i : Int) < (N : Int) := by omega
      by_cases hnb : n ≤ 262144
      · have hnbI : (n : Int) ≤ 262144 := by omega
        obtain ⟨m, cs, g, o, rfl, hm, hcl, hrg, K⟩ := unhide HC wr i (unhide HR).1 hlt
        have HN2 : Hid (msN (l.take (i + 1)) = msN (l.take i) + mlN m) := msN_take hm
        obtain ⟨CN, hCN⟩ : ∃ CN, CN = mlN m := ⟨_, rfl⟩
        rw [← hCN] at K HN2
        have z1 : (Try.prog.info? 53).map (·.size) = some cs.length := by rw [hcl]; exact infoMlS
        have HZ := hide (And.intro hrg z1)
        have KH := hide K
        clear hm hcl hrg K hCN z1
        go_wp2_with (refine wpList_load_mid rfl 53 (.tmp 20) rfl g (o + i * 30) (by simp [Act.eval]) cs _ (unhide HZ).1 Try.underlying53 rfl (unhide HZ).2 ?_)
        refine (unhide KH).mono ?_
        rintro e2 w2 ⟨q, rfl, m1, m2, b2⟩
        have hmI : (q : Int) ≤ 3377699720527872 := by omega
        have HR2 : Hid (Below w.heap.size w w2 ∧ (n + q ≤ 262144 → n + q = N + msN (l.take (i + 1)))) := ⟨bw_tr (unhide HR).1 b2, fun c => by
          have := (unhide HR).2 (by omega)
          have := m2 (by omega)
          rw [unhide HN2]; omega⟩
        clear KH HZ HN2 m2 b2 HR
        go_wp2_with fail
        go_roundw
        case rel => exact ⟨i + 1, n + q, by omega, by go_num, by go_num, by omega, HR2⟩
        case measure => simp only [intOf]; omega
      · have hnbI : (262144 : Int) < (n : Int) := by omega
        have hnd : decide ((n : Int) ≤ 262144) = false := decide_eq_false (by omega)
        have B := hide (unhide HR).1
        clear HG HR
        go_wp2
        go_ret
        exact ⟨n, rfl, by omega, fun c => absurd c (by omega), unhide B⟩
    · obtain rfl : i = N := by omega
      have HE : Hid (Below w.heap.size w wr ∧ (n ≤ 262144 → n = G)) := ⟨(unhide HR).1, fun c => by
        have h1 := (unhide HR).2 c
        rw [unhide HL, List.take_length, ← unhide HL] at h1
        rw [unhide HG]; exact h1⟩
      clear HR HG
      go_wp2
      go_ret
      exact ⟨n, rfl, by omega, (unhide HE).2, (unhide HE).1⟩
structure Bxs (w : World) (v : Value) (l : List Bx) (xs : List (Value × List Mx)) : Prop where
  len : l.length ≤ 140737488355328
  xl : xs.length = l.length
  el : ∀ (i : Nat) (b : Bx) (x : Value × List Mx), l[i]? = some b → xs[i]? = some x → b.ml.length ≤ 140737488355328 ∧ x.2.length = b.ml.length ∧ (∃ ad cap, x.1 = .slice ad b.ml.length cap ∧ (b.ml = [] ∨ ∃ g o, ad = some ⟨g, o, none⟩ ∧ ∀ j u, (cellK kMl b.ml x.2)[j]? = some u → w.cell? ⟨g, o + j, none⟩ = some u)) ∧ ∀ (i : Nat) (m : Ml) (y : Mx), b.ml[i]? = some m → x.2[i]? = some y → MlR w m y ∧ ∀ z ∈ [m.c0, m.c1, m.c2, m.n0, m.n1, m.n2, m.n3, m.n4], -9223372036854775808 ≤ z ∧ z ≤ 9223372036854775807
  form : ∃ ad cap, v = .slice ad l.length cap ∧ (l = [] ∨ ∃ g o, ad = some ⟨g, o, none⟩ ∧ ∀ j u, (cellK kBx l xs)[j]? = some u → w.cell? ⟨g, o + j, none⟩ = some u)
set_option maxRecDepth 100000 in
set_option maxHeartbeats 4000000 in
theorem bxsize_any {w : World} {v : Value} {l : List Bx} {xs : List (Value × List Mx)} (h : Bxs w v l xs) :
    Calls Try.prog 6 #[v] w fun e w' => ∃ n : Nat, e = .returned (.int .i64 (n : Int)) ∧ n ≤ 9007199254740992 ∧ (n ≤ 262144 → n = l.length + bsN l) ∧ Below w.heap.size w w' := by
  obtain ⟨hl, hx, he, a, cap, rfl, hc⟩ := h
  have HC : Hid (∀ (wr : World) (i : Nat), Below w.heap.size w wr → i < l.length → ∃ (b : Bx) (g o N2 c2 : Nat) (a2 : Option Addr), a = some ⟨g, o, none⟩ ∧ l[i]? = some b ∧ wr.cell? ⟨g, o + i * 4 + 2, none⟩ = some (.slice a2 N2 c2) ∧ Calls Try.prog 7 #[.slice a2 N2 c2] wr fun e w' => ∃ n : Nat, e = .returned (.int .i64 (n : Int)) ∧ n ≤ 4503599627370496 ∧ (n ≤ 262144 → n = bxN b) ∧ Below wr.heap.size wr w') := fun wr i hb hi => by
    have h1 : l[i]? = some l[i] := List.getElem?_eq_getElem hi
    have h2 : xs[i]? = some (xs[i]'(by rw [hx]; exact hi)) := List.getElem?_eq_getElem _
    obtain ⟨e1, e2, ⟨a2, c2, e3, e4⟩, e5⟩ := he i _ _ h1 h2
    rcases hc with c | ⟨g, o, rfl, hc⟩
    · rw [c] at hi; simp at hi
    · have hcell : w.cell? ⟨g, o + i * 4 + 2, none⟩ = some (xs[i]'(by rw [hx]; exact hi)).1 := by rw [Nat.add_assoc]; exact hc _ _ (cellK_get (K := kBx) (j := 2) h1 h2 rfl)
      rw [e3] at hcell
      refine ⟨l[i], g, o, l[i].ml.length, c2, a2, rfl, h1, ?_, mlssize_any (xs := (xs[i]'(by rw [hx]; exact hi)).2) e2 e1 ⟨a2, c2, rfl, e4.imp (fun q => q) ?_⟩ (fun j m y hm hy => (e5 j m y hm hy).1.bw hb)⟩
      · rw [hb.cell (lt_of_cell hcell)]; exact hcell
      · rintro ⟨g', o', q1, q2⟩
        exact ⟨g', o', q1, fun j u hj => by rw [hb.cell (lt_of_cell (q2 j u hj))]; exact q2 j u hj⟩
  obtain ⟨N, hN⟩ : ∃ N, N = l.length := ⟨_, rfl⟩
  rw [← hN] at hl HC ⊢
  have hNI : (N : Int) ≤ 140737488355328 := by omega
  obtain ⟨G, hG⟩ : ∃ G, G = N + bsN l := ⟨_, rfl⟩
  rw [← hG]
  have HG := hide hG
  have HL := hide hN
  clear hx hc he hN hl hG
  go_enter Try.func6, Try.ntmps6
  go_wp2_with fail
  go_loopw [3, 4] (fun nv iv wr => ∃ (i n : Nat), i ≤ N ∧ iv = .int .i64 (i : Int) ∧ nv = .int .i64 (n : Int) ∧ n ≤ 1048576 + 140737488355328 + 4503599627370496 ∧ Hid (Below w.heap.size w wr ∧ (n ≤ 262144 → n = N + bsN (l.take i)))) (fun _ iv _ => (N - intOf iv).toNat)
  case atStart => exact ⟨0, N, Nat.zero_le _, rfl, rfl, by omega, Below.refl _ _, fun _ => by simp [bsN]⟩
  case round =>
    obtain ⟨i, n, hi, rfl, rfl, hn, HR⟩ := hrel
    have hnI : (n : Int) ≤ 9007199254740992 := by omega
    by_cases hlt : i < N
    · have hiI : (i : Int) < (N : Int) := by omega
      by_cases hnb : n < 1048576
      · have hnbI : (n : Int) < 1048576 := by omega
        obtain ⟨b, g, o, N2, c2, a2, rfl, hm, hcell, K⟩ := unhide HC wr i (unhide HR).1 hlt
        have HN2 : Hid (bsN (l.take (i + 1)) = bsN (l.take i) + bxN b) := bsN_take hm
        obtain ⟨CN, hCN⟩ : ∃ CN, CN = bxN b := ⟨_, rfl⟩
        rw [← hCN] at K HN2
        have KH := hide K
        clear hm K hCN
        go_wp2_with fail
        refine (unhide KH).mono ?_
        rintro e2 w2 ⟨q, rfl, m1, m2, b2⟩
        have hmI : (q : Int) ≤ 4503599627370496 := by omega
        have HR2 : Hid (Below w.heap.size w w2 ∧ (n + q ≤ 262144 → n + q = N + bsN (l.take (i + 1)))) := ⟨bw_tr (unhide HR).1 b2, fun c => by
          have := (unhide HR).2 (by omega)
          have := m2 (by omega)
          rw [unhide HN2]; omega⟩
        clear KH HN2 m2 b2 HR hcell
        go_wp2_with fail
        go_roundw
        case rel => exact ⟨i + 1, n + q, by omega, by go_num, by go_num, by omega, HR2⟩
        case measure => simp only [intOf]; omega
      · have hnbI : (1048576 : Int) ≤ (n : Int) := by omega
        have hnd : decide ((n : Int) < 1048576) = false := decide_eq_false (by omega)
        have B := hide (unhide HR).1
        clear HG HR
        go_wp2
        go_ret
        exact ⟨n, rfl, by omega, fun c => absurd c (by omega), unhide B⟩
    · obtain rfl : i = N := by omega
      have HE : Hid (Below w.heap.size w wr ∧ (n ≤ 262144 → n = G)) := ⟨(unhide HR).1, fun c => by
        have h1 := (unhide HR).2 c
        rw [unhide HL, List.take_length, ← unhide HL] at h1
        rw [unhide HG]; exact h1⟩
      clear HR HG
      go_wp2
      go_ret
      exact ⟨n, rfl, by omega, (unhide HE).2, (unhide HE).1⟩
end Go.Proofs.Ytnimdnoemmodaaa
