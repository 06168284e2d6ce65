/- Texts joined: PoS QuPt PoC. -/
import Derived.Test.YtinkfjjpnooomaaZ15
import Derived.Test.YtinkfjjpnooomaaZ17
import Derived.Deep.MidRow
import Derived.Test.YtinkfjjpnooomaaZ13
/- SameFace, SameMail, SameMails, SameBox of equal ones. -/
namespace Go.Proofs.Ytinkfjjpnooomaa
open Go.RowKit Go.Maps
theorem Try.cellsCardsx : Try.prog.cellsOf 35 = 3 := by kernel_rfl
theorem Try.wideCardsx : (match Try.prog.underlying 35 with | some (.array _ _) | some (.struct _) => true | _ => false) = true := by kernel_rfl
theorem keyOf_Cards (z0 z1 z2 : Int) (h0 : -9223372036854775808 ≤ z0 ∧ z0 ≤ 9223372036854775807) (h1 : -9223372036854775808 ≤ z1 ∧ z1 ≤ 9223372036854775807) (h2 : -9223372036854775808 ≤ z2 ∧ z2 ≤ 9223372036854775807) : ∃ kl, keyOf Try.prog 35 (.agg #[.int .i64 z0, .int .i64 z1, .int .i64 z2]) = some kl := by
  have hk : Try.prog.keyType 35 = true := by kernel_rfl
  have hf : (Value.agg #[.int .i64 z0, .int .i64 z1, .int .i64 z2]).formed Try.prog 35 = true := by
    have u0 := Try.underlying35
    have c0 := Try.cellsCardsx
    generalize Try.prog = P at *
    simp [Value.formed, u0, c0]
  obtain ⟨m, hm⟩ : ∃ m, Try.prog.types.size = m + 1 := ⟨Try.prog.types.size - 1, by have : 0 < Try.prog.types.size := of_decide_eq_true (by kernel_rfl); omega⟩
  have c3 : Try.prog.cellsOf 3 = 1 := by kernel_rfl
  refine ⟨.string (keyBytes [.int .i64 z0, .int .i64 z1, .int .i64 z2]), ?_⟩
  have w0 := wf_i64' h0
  have w1 := wf_i64' h1
  have w2 := wf_i64' h2
  have u0 := Try.underlying35
  have u3 := Try.underlying3
  have c0 := Try.cellsCardsx
  generalize Try.prog = P at *
  simp only [keyOf, u0, hk, hf, hm, Bool.and_self, if_true]
  simp [Program.keyLits, u0, u3, c0, c3, Value.cells, w0, w1, w2]
set_option maxRecDepth 100000 in
theorem equal_Cards (w : World) (z0 z1 z2 : Int) (h0 : -9223372036854775808 ≤ z0 ∧ z0 ≤ 9223372036854775807) (h1 : -9223372036854775808 ≤ z1 ∧ z1 ≤ 9223372036854775807) (h2 : -9223372036854775808 ≤ z2 ∧ z2 ≤ 9223372036854775807) : (Op.equal 35 (.agg #[.int .i64 z0, .int .i64 z1, .int .i64 z2]) (.agg #[.int .i64 z0, .int .i64 z1, .int .i64 z2])).run Try.prog w = .ok true w := by
  obtain ⟨x, hx⟩ := keyOf_Cards z0 z1 z2 h0 h1 h2
  obtain ⟨r, hr, hiff⟩ := run_equal_deep w (m := 3) (by omega) (by kernel_rfl) Try.wideCardsx hx hx
  rw [hr, hiff.2 rfl]
theorem Try.cellsNotesx : Try.prog.cellsOf 39 = 5 := by kernel_rfl
theorem Try.wideNotesx : (match Try.prog.underlying 39 with | some (.array _ _) | some (.struct _) => true | _ => false) = true := by kernel_rfl
theorem keyOf_Notes (z0 z1 z2 z3 z4 : Int) (h0 : -9223372036854775808 ≤ z0 ∧ z0 ≤ 9223372036854775807) (h1 : -9223372036854775808 ≤ z1 ∧ z1 ≤ 9223372036854775807) (h2 : -9223372036854775808 ≤ z2 ∧ z2 ≤ 9223372036854775807) (h3 : -9223372036854775808 ≤ z3 ∧ z3 ≤ 9223372036854775807) (h4 : -9223372036854775808 ≤ z4 ∧ z4 ≤ 9223372036854775807) : ∃ kl, keyOf Try.prog 39 (.agg #[.int .i64 z0, .int .i64 z1, .int .i64 z2, .int .i64 z3, .int .i64 z4]) = some kl := by
  have hk : Try.prog.keyType 39 = true := by kernel_rfl
  have hf : (Value.agg #[.int .i64 z0, .int .i64 z1, .int .i64 z2, .int .i64 z3, .int .i64 z4]).formed Try.prog 39 = true := by
    have u0 := Try.underlying39
    have c0 := Try.cellsNotesx
    generalize Try.prog = P at *
    simp [Value.formed, u0, c0]
  obtain ⟨m, hm⟩ : ∃ m, Try.prog.types.size = m + 1 := ⟨Try.prog.types.size - 1, by have : 0 < Try.prog.types.size := of_decide_eq_true (by kernel_rfl); omega⟩
  have c3 : Try.prog.cellsOf 3 = 1 := by kernel_rfl
  refine ⟨.string (keyBytes [.int .i64 z0, .int .i64 z1, .int .i64 z2, .int .i64 z3, .int .i64 z4]), ?_⟩
  have w0 := wf_i64' h0
  have w1 := wf_i64' h1
  have w2 := wf_i64' h2
  have w3 := wf_i64' h3
  have w4 := wf_i64' h4
  have u0 := Try.underlying39
  have u3 := Try.underlying3
  have c0 := Try.cellsNotesx
  generalize Try.prog = P at *
  simp only [keyOf, u0, hk, hf, hm, Bool.and_self, if_true]
  simp [Program.keyLits, u0, u3, c0, c3, Value.cells, w0, w1, w2, w3, w4]
set_option maxRecDepth 100000 in
theorem equal_Notes (w : World) (z0 z1 z2 z3 z4 : Int) (h0 : -9223372036854775808 ≤ z0 ∧ z0 ≤ 9223372036854775807) (h1 : -9223372036854775808 ≤ z1 ∧ z1 ≤ 9223372036854775807) (h2 : -9223372036854775808 ≤ z2 ∧ z2 ≤ 9223372036854775807) (h3 : -9223372036854775808 ≤ z3 ∧ z3 ≤ 9223372036854775807) (h4 : -9223372036854775808 ≤ z4 ∧ z4 ≤ 9223372036854775807) : (Op.equal 39 (.agg #[.int .i64 z0, .int .i64 z1, .int .i64 z2, .int .i64 z3, .int .i64 z4]) (.agg #[.int .i64 z0, .int .i64 z1, .int .i64 z2, .int .i64 z3, .int .i64 z4])).run Try.prog w = .ok true w := by
  obtain ⟨x, hx⟩ := keyOf_Notes z0 z1 z2 z3 z4 h0 h1 h2 h3 h4
  obtain ⟨r, hr, hiff⟩ := run_equal_deep w (m := 3) (by omega) (by kernel_rfl) Try.wideNotesx hx hx
  rw [hr, hiff.2 rfl]
theorem blk_rng {W : World} {b : Nat} {cs : List Value} {t : TypeId} (h : W.heap[b]? = some (.cells cs.toArray t (0, 0))) {o : Nat} {ds : List Value} (hd : ∀ j u, ds[j]? = some u → cs[o + j]? = some u) : W.rangeAt b o ds := fun j u hj => blk_c h (by rw [List.getElem?_toArray]; exact hd j u hj)
theorem ml_cm (m : Ml) (x : Mx) : ∀ j u, (cmC m.cm x.cx)[j]? = some u → (mlC m x)[1 + j]? = some u := fun j u hj => by
  have e : mlC m x = .int .u8 m.kd :: (cmC m.cm x.cx ++ (mlC m x).drop 16) := rfl
  rw [e, Nat.add_comm, List.getElem?_cons_succ, List.getElem?_append_left (List.getElem?_eq_some_iff.1 hj).1]
  exact hj
set_option maxRecDepth 100000 in
set_option maxHeartbeats 4000000 in
theorem sameFace_any {w : World} {va vb : Value} {T : List Nd} {f0 f1 f3 : Int} (ha : Trd w va T) (hb : Trd w vb T) :
    Calls Try.prog 78 #[.agg #[.int .i64 f0, .int .i64 f1, va, .int .i64 f3], .agg #[.int .i64 f0, .int .i64 f1, vb, .int .i64 f3]] w fun e w' => e = .returned (.bool true) ∧ Below w.heap.size w w' := by
  obtain ⟨w0, hw0⟩ : ∃ w0, w0 = (w.alloc (.cells #[.int .i64 f0, .int .i64 f1, va, .int .i64 f3] 37)).alloc (.cells #[.int .i64 f0, .int .i64 f1, vb, .int .i64 f3] 37) := ⟨_, rfl⟩
  have s0 : TwoB w w0 37 #[.int .i64 f0, .int .i64 f1, va, .int .i64 f3] #[.int .i64 f0, .int .i64 f1, vb, .int .i64 f3] := by rw [hw0]; exact TwoB.start _ _ _ _
  have KT := hide (sameTree_eq (ha.bw s0.bel) (hb.bw s0.bel))
  obtain ⟨a, c, rfl⟩ := ha.slice
  obtain ⟨a', c', rfl⟩ := hb.slice
  generalize T.length = N at *
  have c0 : w0.cell? ⟨w.heap.size, 0, none⟩ = some (.int .i64 f0) := blk_c s0.k1 rfl
  have c1 : w0.cell? ⟨w.heap.size, 1, none⟩ = some (.int .i64 f1) := blk_c s0.k1 rfl
  have c2 : w0.cell? ⟨w.heap.size, 2, none⟩ = some (.slice a N c) := blk_c s0.k1 rfl
  have c3 : w0.cell? ⟨w.heap.size, 3, none⟩ = some (.int .i64 f3) := blk_c s0.k1 rfl
  have d0 : w0.cell? ⟨w.heap.size + 1, 0, none⟩ = some (.int .i64 f0) := blk_c s0.k2 rfl
  have d1 : w0.cell? ⟨w.heap.size + 1, 1, none⟩ = some (.int .i64 f1) := blk_c s0.k2 rfl
  have d2 : w0.cell? ⟨w.heap.size + 1, 2, none⟩ = some (.slice a' N c') := blk_c s0.k2 rfl
  have d3 : w0.cell? ⟨w.heap.size + 1, 3, none⟩ = some (.int .i64 f3) := blk_c s0.k2 rfl
  have HW := hide hw0
  have BL := hide s0.bel
  clear ha hb hw0 s0
  go_enter Try.func78, Try.ntmps78
  go_upto_region 1 with fail
  rw [← unhide HW]
  clear HW
  go_wp2_with fail
  refine (unhide KT).mono ?_
  rintro e w1 ⟨rfl, b1⟩
  clear c0 c1 c2 c3 d0 d1 d2 d3
  go_wp2_with fail
  go_ret
  exact ⟨rfl, bw_tr (unhide BL) b1⟩
set_option maxRecDepth 100000 in
set_option maxHeartbeats 8000000 in
theorem sameMail_any {w : World} {m : Ml} {x y : Mx} (hx : MlR w m x) (hy : MlR w m y) (hs : SmM m) :
    Calls Try.prog 67 #[.agg (mlC m x).toArray, .agg (mlC m y).toArray] w fun e w' => e = .returned (.bool true) ∧ Below w.heap.size w w' := by
  obtain ⟨w0, hw0⟩ : ∃ w0, w0 = (w.alloc (.cells (mlC m x).toArray 41)).alloc (.cells (mlC m y).toArray 41) := ⟨_, rfl⟩
  have s0 : TwoB w w0 41 (mlC m x).toArray (mlC m y).toArray := by rw [hw0]; exact TwoB.start _ _ _ _
  have KC := hide (samecm_any (hx.c.bw s0.bel) (hy.c.bw s0.bel))
  have KF : Hid (∀ W, Below w0.heap.size w0 W → Calls Try.prog 78 #[.agg #[.int .i64 m.f0, .int .i64 m.f1, x.tv, .int .i64 m.f3], .agg #[.int .i64 m.f0, .int .i64 m.f1, y.tv, .int .i64 m.f3]] W fun e w' => e = .returned (.bool true) ∧ Below W.heap.size W w') := fun W hW => sameFace_any (hx.t.bw (bw_tr s0.bel hW)) (hy.t.bw (bw_tr s0.bel hW))
  have hb := hs.b
  have he1 := fun W => equal_Cards W m.c0 m.c1 m.c2 (hb _ (by simp)) (hb _ (by simp)) (hb _ (by simp))
  have he2 := fun W => equal_Notes W m.n0 m.n1 m.n2 m.n3 m.n4 (hb _ (by simp)) (hb _ (by simp)) (hb _ (by simp)) (hb _ (by simp)) (hb _ (by simp))
  obtain ⟨ta, tc, eT⟩ := hx.t.slice
  obtain ⟨ta', tc', eT'⟩ := hy.t.slice
  have r1 : w0.rangeAt w.heap.size 1 (cmC m.cm x.cx) := blk_rng s0.k1 (ml_cm m x)
  have r2 : w0.rangeAt (w.heap.size + 1) 1 (cmC m.cm y.cx) := blk_rng s0.k2 (ml_cm m y)
  have c1 : w0.cell? ⟨w.heap.size, 1, none⟩ = some (.int .i64 m.cm.gr) := blk_c s0.k1 rfl
  have d1 : w0.cell? ⟨w.heap.size + 1, 1, none⟩ = some (.int .i64 m.cm.gr) := blk_c s0.k2 rfl
  have c2 : w0.cell? ⟨w.heap.size, 2, none⟩ = some (.int .i64 m.cm.ep) := blk_c s0.k1 rfl
  have d2 : w0.cell? ⟨w.heap.size + 1, 2, none⟩ = some (.int .i64 m.cm.ep) := blk_c s0.k2 rfl
  have c3 : w0.cell? ⟨w.heap.size, 3, none⟩ = some (.int .i64 m.cm.dev) := blk_c s0.k1 rfl
  have d3 : w0.cell? ⟨w.heap.size + 1, 3, none⟩ = some (.int .i64 m.cm.dev) := blk_c s0.k2 rfl
  have c4 : w0.cell? ⟨w.heap.size, 4, none⟩ = some (.int .i64 m.cm.mem) := blk_c s0.k1 rfl
  have d4 : w0.cell? ⟨w.heap.size + 1, 4, none⟩ = some (.int .i64 m.cm.mem) := blk_c s0.k2 rfl
  have c5 : w0.cell? ⟨w.heap.size, 5, none⟩ = some (.int .i64 m.cm.ke) := blk_c s0.k1 rfl
  have d5 : w0.cell? ⟨w.heap.size + 1, 5, none⟩ = some (.int .i64 m.cm.ke) := blk_c s0.k2 rfl
  have c6 : w0.cell? ⟨w.heap.size, 6, none⟩ = some (.bool m.cm.ext) := blk_c s0.k1 rfl
  have d6 : w0.cell? ⟨w.heap.size + 1, 6, none⟩ = some (.bool m.cm.ext) := blk_c s0.k2 rfl
  have c7 : w0.cell? ⟨w.heap.size, 7, none⟩ = some (x.cx.av) := blk_c s0.k1 rfl
  have d7 : w0.cell? ⟨w.heap.size + 1, 7, none⟩ = some (y.cx.av) := blk_c s0.k2 rfl
  have c8 : w0.cell? ⟨w.heap.size, 8, none⟩ = some (x.cx.rv) := blk_c s0.k1 rfl
  have d8 : w0.cell? ⟨w.heap.size + 1, 8, none⟩ = some (y.cx.rv) := blk_c s0.k2 rfl
  have c9 : w0.cell? ⟨w.heap.size, 9, none⟩ = some (x.cx.qv) := blk_c s0.k1 rfl
  have d9 : w0.cell? ⟨w.heap.size + 1, 9, none⟩ = some (y.cx.qv) := blk_c s0.k2 rfl
  have c10 : w0.cell? ⟨w.heap.size, 10, none⟩ = some (x.cx.jv) := blk_c s0.k1 rfl
  have d10 : w0.cell? ⟨w.heap.size + 1, 10, none⟩ = some (y.cx.jv) := blk_c s0.k2 rfl
  have c11 : w0.cell? ⟨w.heap.size, 11, none⟩ = some (.int .i64 m.cm.own) := blk_c s0.k1 rfl
  have d11 : w0.cell? ⟨w.heap.size + 1, 11, none⟩ = some (.int .i64 m.cm.own) := blk_c s0.k2 rfl
  have c12 : w0.cell? ⟨w.heap.size, 12, none⟩ = some (.int .i64 m.cm.ent) := blk_c s0.k1 rfl
  have d12 : w0.cell? ⟨w.heap.size + 1, 12, none⟩ = some (.int .i64 m.cm.ent) := blk_c s0.k2 rfl
  have c13 : w0.cell? ⟨w.heap.size, 13, none⟩ = some (x.cx.nv) := blk_c s0.k1 rfl
  have d13 : w0.cell? ⟨w.heap.size + 1, 13, none⟩ = some (y.cx.nv) := blk_c s0.k2 rfl
  have c14 : w0.cell? ⟨w.heap.size, 14, none⟩ = some (.int .i64 m.cm.face) := blk_c s0.k1 rfl
  have d14 : w0.cell? ⟨w.heap.size + 1, 14, none⟩ = some (.int .i64 m.cm.face) := blk_c s0.k2 rfl
  have c15 : w0.cell? ⟨w.heap.size, 15, none⟩ = some (.int .i64 m.cm.card) := blk_c s0.k1 rfl
  have d15 : w0.cell? ⟨w.heap.size + 1, 15, none⟩ = some (.int .i64 m.cm.card) := blk_c s0.k2 rfl
  have c0 : w0.cell? ⟨w.heap.size, 0, none⟩ = some (.int .u8 m.kd) := blk_c s0.k1 rfl
  have d0 : w0.cell? ⟨w.heap.size + 1, 0, none⟩ = some (.int .u8 m.kd) := blk_c s0.k2 rfl
  have c16 : w0.cell? ⟨w.heap.size, 16, none⟩ = some (.int .i64 m.gr) := blk_c s0.k1 rfl
  have d16 : w0.cell? ⟨w.heap.size + 1, 16, none⟩ = some (.int .i64 m.gr) := blk_c s0.k2 rfl
  have c17 : w0.cell? ⟨w.heap.size, 17, none⟩ = some (.int .i64 m.ep) := blk_c s0.k1 rfl
  have d17 : w0.cell? ⟨w.heap.size + 1, 17, none⟩ = some (.int .i64 m.ep) := blk_c s0.k2 rfl
  have c18 : w0.cell? ⟨w.heap.size, 18, none⟩ = some (.int .i64 m.c0) := blk_c s0.k1 rfl
  have d18 : w0.cell? ⟨w.heap.size + 1, 18, none⟩ = some (.int .i64 m.c0) := blk_c s0.k2 rfl
  have c19 : w0.cell? ⟨w.heap.size, 19, none⟩ = some (.int .i64 m.c1) := blk_c s0.k1 rfl
  have d19 : w0.cell? ⟨w.heap.size + 1, 19, none⟩ = some (.int .i64 m.c1) := blk_c s0.k2 rfl
  have c20 : w0.cell? ⟨w.heap.size, 20, none⟩ = some (.int .i64 m.c2) := blk_c s0.k1 rfl
  have d20 : w0.cell? ⟨w.heap.size + 1, 20, none⟩ = some (.int .i64 m.c2) := blk_c s0.k2 rfl
  have c25 : w0.cell? ⟨w.heap.size, 25, none⟩ = some (.int .i64 m.n0) := blk_c s0.k1 rfl
  have d25 : w0.cell? ⟨w.heap.size + 1, 25, none⟩ = some (.int .i64 m.n0) := blk_c s0.k2 rfl
  have c26 : w0.cell? ⟨w.heap.size, 26, none⟩ = some (.int .i64 m.n1) := blk_c s0.k1 rfl
  have d26 : w0.cell? ⟨w.heap.size + 1, 26, none⟩ = some (.int .i64 m.n1) := blk_c s0.k2 rfl
  have c27 : w0.cell? ⟨w.heap.size, 27, none⟩ = some (.int .i64 m.n2) := blk_c s0.k1 rfl
  have d27 : w0.cell? ⟨w.heap.size + 1, 27, none⟩ = some (.int .i64 m.n2) := blk_c s0.k2 rfl
  have c28 : w0.cell? ⟨w.heap.size, 28, none⟩ = some (.int .i64 m.n3) := blk_c s0.k1 rfl
  have d28 : w0.cell? ⟨w.heap.size + 1, 28, none⟩ = some (.int .i64 m.n3) := blk_c s0.k2 rfl
  have c29 : w0.cell? ⟨w.heap.size, 29, none⟩ = some (.int .i64 m.n4) := blk_c s0.k1 rfl
  have d29 : w0.cell? ⟨w.heap.size + 1, 29, none⟩ = some (.int .i64 m.n4) := blk_c s0.k2 rfl
  have HF : Hid (∀ W, Below w0.heap.size w0 W → W.cell? ⟨w.heap.size, 21, none⟩ = some (.int .i64 m.f0) ∧ W.cell? ⟨w.heap.size + 1, 21, none⟩ = some (.int .i64 m.f0) ∧ W.cell? ⟨w.heap.size, 22, none⟩ = some (.int .i64 m.f1) ∧ W.cell? ⟨w.heap.size + 1, 22, none⟩ = some (.int .i64 m.f1) ∧ W.cell? ⟨w.heap.size, 23, none⟩ = some (x.tv) ∧ W.cell? ⟨w.heap.size + 1, 23, none⟩ = some (y.tv) ∧ W.cell? ⟨w.heap.size, 24, none⟩ = some (.int .i64 m.f3) ∧ W.cell? ⟨w.heap.size + 1, 24, none⟩ = some (.int .i64 m.f3)) := fun W hW => by
    have q1 := kept_b s0.k1 (lt_of_blk s0.k1) hW
    have q2 := kept_b s0.k2 (lt_of_blk s0.k2) hW
    exact ⟨blk_c q1 rfl, blk_c q2 rfl, blk_c q1 rfl, blk_c q2 rfl, blk_c q1 rfl, blk_c q2 rfl, blk_c q1 rfl, blk_c q2 rfl⟩
  obtain ⟨sa1, sk1, e1⟩ := hx.c.adds.slice
  obtain ⟨sa2, sk2, e2⟩ := nums_slice hx.c.rem
  obtain ⟨sa3, sk3, e3⟩ := hx.c.seals.slice
  obtain ⟨sa4, sk4, e4⟩ := hx.c.joins.slice
  obtain ⟨sa5, sk5, e5⟩ := hx.c.next.slice
  obtain ⟨ta1, tk1, e6⟩ := hy.c.adds.slice
  obtain ⟨ta2, tk2, e7⟩ := nums_slice hy.c.rem
  obtain ⟨ta3, tk3, e8⟩ := hy.c.seals.slice
  obtain ⟨ta4, tk4, e9⟩ := hy.c.joins.slice
  obtain ⟨ta5, tk5, e10⟩ := hy.c.next.slice
  have HW := hide hw0
  have BL := hide s0.bel
  obtain ⟨CX, hCX⟩ : ∃ z, z = mlC m x := ⟨_, rfl⟩
  obtain ⟨CY, hCY⟩ : ∃ z, z = mlC m y := ⟨_, rfl⟩
  rw [← hCX, ← hCY] at HW ⊢
  clear hx hy hs hb hw0 s0 r1 r2 hCX hCY
  obtain ⟨kd, ⟨q0, q1, q2, q3, q4, q5, adds, rem, seals, joins, q10, q11, next, q13, q14⟩, gr, ep, c0_, c1_, c2_, f0, f1, tr, f3, n0, n1, n2, n3, n4⟩ := m
  obtain ⟨⟨av, rv, qv, jv, nv⟩, us, tv, ts⟩ := x
  obtain ⟨⟨av', rv', qv', jv', nv'⟩, us', tv', ts'⟩ := y
  unfold cmV cmC at KC
  simp only at *
  subst e1 e2 e3 e4 e5 e6 e7 e8 e9 e10 eT eT'
  generalize tr.length = N at *
  generalize adds.length = NA at *
  generalize rem.length = NR at *
  generalize seals.length = NQ at *
  generalize joins.length = NJ at *
  generalize next.length = NN at *
  go_enter Try.func67, Try.ntmps67
  go_upto_region 1 with fail
  rw [← unhide HW]
  clear HW
  go_wp2_with fail
  refine (unhide KC).mono ?_
  rintro e w1 ⟨rfl, b1⟩
  obtain ⟨x0, y0, x1, y1, x2, y2, x3, y3⟩ := unhide HF w1 b1
  clear c0 d0 c16 d16 c17 d17 c18 d18 c19 d19 c20 d20 c25 d25 c26 d26 c27 d27 c28 d28 c29 d29 c1 d1 c2 d2 c3 d3 c4 d4 c5 d5 c6 d6 c7 d7 c8 d8 c9 d9 c10 d10 c11 d11 c12 d12 c13 d13 c14 d14 c15 d15
  go_wp2_with fail
  refine (unhide KF w1 b1).mono ?_
  rintro e w2 ⟨rfl, b2⟩
  clear x0 y0 x1 y1 x2 y2 x3 y3
  go_wp2_with fail
  go_ret
  exact ⟨rfl, bw_tr (bw_tr (unhide BL) b1) b2⟩
end Go.Proofs.Ytinkfjjpnooomaa

/- How great a mail is: MailSize (out of PoT). mkQuLs.py writes it. -/
namespace Go.Proofs.Ytinkfjjpnooomaa
open Go.RowKit Go.Maps
def mlN (m : Ml) : Nat := cmN m.cm + (m.tr.length + usum m.tr)
set_option maxRecDepth 100000 in
set_option maxHeartbeats 4000000 in
theorem mlsize_any {w : World} {m : Ml} {x : Mx} (h : MlR w m x) :
    Calls Try.prog 21 #[.agg (mlC m x).toArray] w fun e w' => ∃ n : Nat, e = .returned (.int .i64 (n : Int)) ∧ n ≤ 3377699720527872 ∧ (n ≤ 262144 → n = mlN m) ∧ Below w.heap.size w w' := by
  obtain ⟨w0, hw0⟩ : ∃ w0, w0 = w.alloc (.cells (mlC m x).toArray 41) := ⟨_, rfl⟩
  have bl : Below w.heap.size w w0 := by rw [hw0]; exact bwA _ _
  have kk : w0.heap[w.heap.size]? = some (.cells (mlC m x).toArray 41 (0, 0)) := by rw [hw0]; exact heap_alloc_new _ _
  have bd : Below w0.heap.size w0 w0.drew := (Below.refl _ _).drew
  have KC : Calls Try.prog 20 #[.agg (cmC m.cm x.cx).toArray] w0.drew fun e w' => ∃ n : Nat, e = .returned (.int .i64 (n : Int)) ∧ n ≤ 2251799813685248 ∧ (n ≤ 262144 → n = cmN m.cm) ∧ Below w0.heap.size w0 w' := by
    refine Calls.mono (cmsize_any (h.c.bw (bw_tr bl bd))) ?_
    rintro e w' ⟨n, q1, q2, q3, q4⟩
    exact ⟨n, q1, q2, q3, bw_tr bd q4⟩
  have KT : Hid (∀ W, Below w0.heap.size w0 W → Calls Try.prog 33 #[.agg #[x.tv]] W fun e w' => ∃ n : Nat, e = .returned (.int .i64 (n : Int)) ∧ n ≤ 1125899906842624 ∧ (n ≤ 262144 → n = m.tr.length + usum m.tr) ∧ Below w0.heap.size w0 w') := fun W hW => by
    refine Calls.mono (treeSize2_any (h.t.bw (bw_tr bl hW))) ?_
    rintro e w' ⟨n, q1, q2, q3, q4⟩
    exact ⟨n, q1, q2, q3, bw_tr hW q4⟩
  obtain ⟨a1, k1, e1⟩ := h.c.adds.slice
  obtain ⟨a2, k2, e2⟩ := nums_slice h.c.rem
  obtain ⟨a3, k3, e3⟩ := h.c.seals.slice
  obtain ⟨a4, k4, e4⟩ := h.c.joins.slice
  obtain ⟨a5, k5, e5⟩ := h.c.next.slice
  obtain ⟨a6, k6, e6⟩ := h.t.slice
  have HN : Hid (mlN m = cmN m.cm + (m.tr.length + usum m.tr)) := rfl
  obtain ⟨CX, hCX⟩ : ∃ z, z = mlC m x := ⟨_, rfl⟩
  obtain ⟨MN, hMN⟩ : ∃ z, z = mlN m := ⟨_, rfl⟩
  obtain ⟨CN, hCN⟩ : ∃ z, z = cmN m.cm := ⟨_, rfl⟩
  obtain ⟨TN, hTN⟩ : ∃ z, z = m.tr.length + usum m.tr := ⟨_, rfl⟩
  rw [← hTN] at KT HN
  rw [← hCN] at KC HN
  rw [← hMN] at HN ⊢
  have HW := hide hw0
  rw [← hCX] at HW ⊢
  clear h hw0 hCX hMN hCN hTN
  obtain ⟨g0, ⟨g1, g2, g3, g4, g5, g6, adds, rem, seals, joins, g11, g12, next, g14, g15⟩, g16, g17, g18, g19, g20, g21, g22, tr, g24, g25, g26, g27, g28, g29⟩ := m
  obtain ⟨⟨av, rv, qv, jv, nv⟩, us, tv, ts⟩ := x
  unfold cmC at KC
  simp only at KC KT e1 e2 e3 e4 e5 e6 kk
  obtain ⟨LN, hLN⟩ : ∃ z, z = next.length := ⟨_, rfl⟩
  obtain ⟨LA, hLA⟩ : ∃ z, z = adds.length := ⟨_, rfl⟩
  obtain ⟨LR, hLR⟩ : ∃ z, z = rem.length := ⟨_, rfl⟩
  obtain ⟨LQ, hLQ⟩ : ∃ z, z = seals.length := ⟨_, rfl⟩
  obtain ⟨LJ, hLJ⟩ : ∃ z, z = joins.length := ⟨_, rfl⟩
  obtain ⟨LT, hLT⟩ : ∃ z, z = tr.length := ⟨_, rfl⟩
  rw [← hLA] at e1
  rw [← hLR] at e2
  rw [← hLQ] at e3
  rw [← hLJ] at e4
  rw [← hLN] at e5
  rw [← hLT] at e6
  clear hLN hLA hLR hLQ hLJ hLT
  subst e1 e2 e3 e4 e5 e6
  have KC : Hid (Calls Try.prog 20 #[.agg #[.int .i64 g1, .int .i64 g2, .int .i64 g3, .int .i64 g4, .int .i64 g5, .bool g6, .slice a1 LA k1, .slice a2 LR k2, .slice a3 LQ k3, .slice a4 LJ k4, .int .i64 g11, .int .i64 g12, .slice a5 LN k5, .int .i64 g14, .int .i64 g15]] w0.drew fun e w' => ∃ n : Nat, e = .returned (.int .i64 (n : Int)) ∧ n ≤ 2251799813685248 ∧ (n ≤ 262144 → n = CN) ∧ Below w0.heap.size w0 w') := KC
  have HS : Hid (∀ W, Below w0.heap.size w0 W → (W.cell? ⟨w.heap.size, 1, none⟩ = some (.int .i64 g1) ∧ W.cell? ⟨w.heap.size, 2, none⟩ = some (.int .i64 g2) ∧ W.cell? ⟨w.heap.size, 3, none⟩ = some (.int .i64 g3) ∧ W.cell? ⟨w.heap.size, 4, none⟩ = some (.int .i64 g4) ∧ W.cell? ⟨w.heap.size, 5, none⟩ = some (.int .i64 g5) ∧ W.cell? ⟨w.heap.size, 6, none⟩ = some (.bool g6) ∧ W.cell? ⟨w.heap.size, 7, none⟩ = some (.slice a1 LA k1) ∧ W.cell? ⟨w.heap.size, 8, none⟩ = some (.slice a2 LR k2) ∧ W.cell? ⟨w.heap.size, 9, none⟩ = some (.slice a3 LQ k3) ∧ W.cell? ⟨w.heap.size, 10, none⟩ = some (.slice a4 LJ k4) ∧ W.cell? ⟨w.heap.size, 11, none⟩ = some (.int .i64 g11) ∧ W.cell? ⟨w.heap.size, 12, none⟩ = some (.int .i64 g12) ∧ W.cell? ⟨w.heap.size, 13, none⟩ = some (.slice a5 LN k5) ∧ W.cell? ⟨w.heap.size, 14, none⟩ = some (.int .i64 g14) ∧ W.cell? ⟨w.heap.size, 15, none⟩ = some (.int .i64 g15) ∧ W.cell? ⟨w.heap.size, 23, none⟩ = some (.slice a6 LT k6)) ∧ Below w.heap.size w W) := fun W hW => by
    have k := kept_b kk (lt_of_blk kk) hW
    exact ⟨⟨blk_c k rfl, blk_c k rfl, blk_c k rfl, blk_c k rfl, blk_c k rfl, blk_c k rfl, blk_c k rfl, blk_c k rfl, blk_c k rfl, blk_c k rfl, blk_c k rfl, blk_c k rfl, blk_c k rfl, blk_c k rfl, blk_c k rfl, blk_c k rfl⟩, bw_tr bl hW⟩
  have S0 := (unhide HS w0 (Below.refl _ _)).1
  have S00 := (unhide HS w0.drew bd).1
  clear bl kk bd
  go_enter Try.func21, Try.ntmps21
  go_upto_region 1 with fail
  rw [← unhide HW]
  clear HW
  go_region_held3 (fun w' : World => w'.cell? ⟨w.heap.size, 1, none⟩ = some (.int .i64 g1) ∧ w'.cell? ⟨w.heap.size, 2, none⟩ = some (.int .i64 g2) ∧ w'.cell? ⟨w.heap.size, 3, none⟩ = some (.int .i64 g3) ∧ w'.cell? ⟨w.heap.size, 4, none⟩ = some (.int .i64 g4) ∧ w'.cell? ⟨w.heap.size, 5, none⟩ = some (.int .i64 g5) ∧ w'.cell? ⟨w.heap.size, 6, none⟩ = some (.bool g6) ∧ w'.cell? ⟨w.heap.size, 7, none⟩ = some (.slice a1 LA k1) ∧ w'.cell? ⟨w.heap.size, 8, none⟩ = some (.slice a2 LR k2) ∧ w'.cell? ⟨w.heap.size, 9, none⟩ = some (.slice a3 LQ k3) ∧ w'.cell? ⟨w.heap.size, 10, none⟩ = some (.slice a4 LJ k4) ∧ w'.cell? ⟨w.heap.size, 11, none⟩ = some (.int .i64 g11) ∧ w'.cell? ⟨w.heap.size, 12, none⟩ = some (.int .i64 g12) ∧ w'.cell? ⟨w.heap.size, 13, none⟩ = some (.slice a5 LN k5) ∧ w'.cell? ⟨w.heap.size, 14, none⟩ = some (.int .i64 g14) ∧ w'.cell? ⟨w.heap.size, 15, none⟩ = some (.int .i64 g15) ∧ w'.cell? ⟨w.heap.size, 23, none⟩ = some (.slice a6 LT k6)) (first | with_reducible exact S0 | with_reducible exact S00 | with_reducible exact S1 | with_reducible exact S2) (first
    | (go_at_call 20; refine (unhide KC).mono ?_; rintro e z1 ⟨n, rfl, hn1, hn2, b1⟩; obtain ⟨S1, B1⟩ := unhide HS z1 b1; have K2 := hide (unhide KT z1 b1))
    | (go_at_call 33; refine (unhide K2).mono ?_; rintro e z2 ⟨n2, rfl, hm1, hm2, b2⟩; obtain ⟨S2, B2⟩ := unhide HS z2 b2; have hv : IntKind.i64.wrap ((n : Int) + (n2 : Int)) = ((n + n2 : Nat) : Int) := (by rw [wrap_id (by omega)]; omega)))
  all_goals
    go_wp2_with fail
    go_ret
    refine ⟨n + n2, ?_, by omega, fun hq => ?_, B2⟩
    · first | rfl | (simp [hv])
    · have := hn2 (by omega)
      have := hm2 (by omega)
      have := unhide HN
      omega
end Go.Proofs.Ytinkfjjpnooomaa

/- A mail's copy (fresh.Mail). -/
namespace Go.Proofs.Ytinkfjjpnooomaa
open Go.RowKit Go.Maps
theorem frCommitS_any {w : World} {c : Cm} {x : Cv} (h : CmR w c x) (hs : SmC c) :
    Calls Try.prog 39 #[cmV c x] w fun e w' => ∃ a1' k1' a2' k2' a3' k3' a4' k4' a5' k5' us, e = .returned (cmV c ⟨.slice a1' c.adds.length k1', .slice a2' c.rem.length k2', .slice a3' c.seals.length k3', .slice a4' c.joins.length k4', .slice a5' c.next.length k5'⟩) ∧ OC w.heap.size w' c ⟨.slice a1' c.adds.length k1', .slice a2' c.rem.length k2', .slice a3' c.seals.length k3', .slice a4' c.joins.length k4', .slice a5' c.next.length k5'⟩ us ∧ Below w.heap.size w w' := by
  refine (frCommit_any h hs).mono ?_
  rintro e w' ⟨x', us, rfl, ho, hb⟩
  obtain ⟨a1', k1', e1⟩ := own_slice ho.adds
  obtain ⟨a2', k2', e2⟩ := own_slice ho.rem
  obtain ⟨a3', k3', e3⟩ := own_slice ho.seals
  obtain ⟨a4', k4', e4⟩ := own_slice ho.joins
  obtain ⟨a5', k5', e5⟩ := own_slice ho.next.row
  obtain ⟨av, rv, qv, jv, nv⟩ := x'
  simp only at e1 e2 e3 e4 e5
  subst e1 e2 e3 e4 e5
  exact ⟨a1', k1', a2', k2', a3', k3', a4', k4', a5', k5', us, rfl, ho, hb⟩
theorem frTreeS_any {w : World} {v : Value} {T : List Nd} (h : Trd w v T) (hl : T.length ≤ 1073741824) (hu : ∀ n ∈ T, n.un.length ≤ 1073741824) :
    Calls Try.prog 60 #[.agg #[v]] w fun e w' => ∃ a6' k6' ts, e = .returned (.agg #[.slice a6' T.length k6']) ∧ OTr w.heap.size w' (.slice a6' T.length k6') T ts ∧ Below w.heap.size w w' := by
  refine (frTree_any h hl hu).mono ?_
  rintro e w' ⟨v', ts, rfl, ho, hb⟩
  obtain ⟨a6', k6', e6⟩ := own_slice ho.row
  subst e6
  exact ⟨a6', k6', ts, rfl, ho, hb⟩
theorem TwoB.pokes1 {w W : World} {t : TypeId} {cs zs : Array Value} (h : TwoB w W t cs zs) (i : Nat) (vs : List Value) : TwoB w (pokes W w.heap.size i vs) t (pk cs i vs) zs ∧ ∀ k, w.heap.size + 2 ≤ k → (pokes W w.heap.size i vs).heap[k]? = W.heap[k]? :=
  ⟨⟨pokes_at _ _ _ _ h.k1, by rw [pokes_other (by omega)]; exact h.k2, pokes_below (Nat.le_refl _) _ _ _ h.bel⟩, fun k hk => pokes_other (by omega) _ _ _⟩
set_option maxRecDepth 100000 in
set_option maxHeartbeats 4000000 in
theorem pk30 (c0 c1 c2 c3 c4 c5 c6 c7 c8 c9 c10 c11 c12 c13 c14 c15 c16 c17 c18 c19 c20 c21 c22 c23 c24 c25 c26 c27 c28 c29 n1 n2 n3 n4 n5 n6 n7 n8 n9 n10 n11 n12 n13 n14 n15 n23 : Value) : (pk #[c0, c1, c2, c3, c4, c5, c6, c7, c8, c9, c10, c11, c12, c13, c14, c15, c16, c17, c18, c19, c20, c21, c22, c23, c24, c25, c26, c27, c28, c29] 1 [n1, n2, n3, n4, n5, n6, n7, n8, n9, n10, n11, n12, n13, n14, n15]).setIfInBounds 23 n23 = #[c0, n1, n2, n3, n4, n5, n6, n7, n8, n9, n10, n11, n12, n13, n14, n15, c16, c17, c18, c19, c20, c21, c22, n23, c24, c25, c26, c27, c28, c29] := by
  simp only [pk, List.setIfInBounds_toArray, Nat.reduceAdd, List.set_cons_zero, List.set_cons_succ]
set_option maxRecDepth 100000 in
set_option maxHeartbeats 8000000 in
theorem frMail_cut {w w0 zz z2 : World} {g0 g1 g2 g3 g4 g5 g11 g12 g14 g15 g16 g17 g18 g19 g20 g21 g22 g24 g25 g26 g27 g28 g29 : Int} {g6 : Bool} {a1 a2 a3 a4 a5 a6 a1' a2' a3' a4' a5' a6' : Option Addr} {k1 k2 k3 k4 k5 k6 k1' k2' k3' k4' k5' k6' LA LR LQ LJ LN LT : Nat} {adds seals joins : List (List Int)} {rem : List Int} {next tr : List Nd} {us ts : List Value}
    (h2 : w.heap.size + 2 ≤ w0.heap.size) (T1 : TwoB w zz 41 #[.int .u8 g0, .int .i64 g1, .int .i64 g2, .int .i64 g3, .int .i64 g4, .int .i64 g5, .bool g6, .slice a1 LA k1, .slice a2 LR k2, .slice a3 LQ k3, .slice a4 LJ k4, .int .i64 g11, .int .i64 g12, .slice a5 LN k5, .int .i64 g14, .int .i64 g15, .int .i64 g16, .int .i64 g17, .int .i64 g18, .int .i64 g19, .int .i64 g20, .int .i64 g21, .int .i64 g22, .slice a6 LT k6, .int .i64 g24, .int .i64 g25, .int .i64 g26, .int .i64 g27, .int .i64 g28, .int .i64 g29] ml0) (T2 : TwoB w z2 41 #[.int .u8 g0, .int .i64 g1, .int .i64 g2, .int .i64 g3, .int .i64 g4, .int .i64 g5, .bool g6, .slice a1 LA k1, .slice a2 LR k2, .slice a3 LQ k3, .slice a4 LJ k4, .int .i64 g11, .int .i64 g12, .slice a5 LN k5, .int .i64 g14, .int .i64 g15, .int .i64 g16, .int .i64 g17, .int .i64 g18, .int .i64 g19, .int .i64 g20, .int .i64 g21, .int .i64 g22, .slice a6 LT k6, .int .i64 g24, .int .i64 g25, .int .i64 g26, .int .i64 g27, .int .i64 g28, .int .i64 g29] ml0) (ho1 : OC w0.drew.heap.size zz ⟨g1, g2, g3, g4, g5, g6, adds, rem, seals, joins, g11, g12, next, g14, g15⟩ ⟨.slice a1' LA k1', .slice a2' LR k2', .slice a3' LQ k3', .slice a4' LJ k4', .slice a5' LN k5'⟩ us) (ho2 : OTr zz.heap.size z2 (.slice a6' LT k6') tr ts) (b2 : Below zz.heap.size zz z2) :
    Hid (TwoB w (((((((((((((((((z2).setCell ⟨w.heap.size, 1, none⟩ (.int .i64 g1)).setCell ⟨w.heap.size, 2, none⟩ (.int .i64 g2)).setCell ⟨w.heap.size, 3, none⟩ (.int .i64 g3)).setCell ⟨w.heap.size, 4, none⟩ (.int .i64 g4)).setCell ⟨w.heap.size, 5, none⟩ (.int .i64 g5)).setCell ⟨w.heap.size, 6, none⟩ (.bool g6)).setCell ⟨w.heap.size, 7, none⟩ (.slice a1' LA k1')).setCell ⟨w.heap.size, 8, none⟩ (.slice a2' LR k2')).setCell ⟨w.heap.size, 9, none⟩ (.slice a3' LQ k3')).setCell ⟨w.heap.size, 10, none⟩ (.slice a4' LJ k4')).setCell ⟨w.heap.size, 11, none⟩ (.int .i64 g11)).setCell ⟨w.heap.size, 12, none⟩ (.int .i64 g12)).setCell ⟨w.heap.size, 13, none⟩ (.slice a5' LN k5')).setCell ⟨w.heap.size, 14, none⟩ (.int .i64 g14)).setCell ⟨w.heap.size, 15, none⟩ (.int .i64 g15)).setCell ⟨w.heap.size, 23, none⟩ (.slice a6' LT k6')) 41 #[.int .u8 g0, .int .i64 g1, .int .i64 g2, .int .i64 g3, .int .i64 g4, .int .i64 g5, .bool g6, .slice a1' LA k1', .slice a2' LR k2', .slice a3' LQ k3', .slice a4' LJ k4', .int .i64 g11, .int .i64 g12, .slice a5' LN k5', .int .i64 g14, .int .i64 g15, .int .i64 g16, .int .i64 g17, .int .i64 g18, .int .i64 g19, .int .i64 g20, .int .i64 g21, .int .i64 g22, .slice a6' LT k6', .int .i64 g24, .int .i64 g25, .int .i64 g26, .int .i64 g27, .int .i64 g28, .int .i64 g29] ml0 ∧ OM (w.heap.size + 2) (((((((((((((((((z2).setCell ⟨w.heap.size, 1, none⟩ (.int .i64 g1)).setCell ⟨w.heap.size, 2, none⟩ (.int .i64 g2)).setCell ⟨w.heap.size, 3, none⟩ (.int .i64 g3)).setCell ⟨w.heap.size, 4, none⟩ (.int .i64 g4)).setCell ⟨w.heap.size, 5, none⟩ (.int .i64 g5)).setCell ⟨w.heap.size, 6, none⟩ (.bool g6)).setCell ⟨w.heap.size, 7, none⟩ (.slice a1' LA k1')).setCell ⟨w.heap.size, 8, none⟩ (.slice a2' LR k2')).setCell ⟨w.heap.size, 9, none⟩ (.slice a3' LQ k3')).setCell ⟨w.heap.size, 10, none⟩ (.slice a4' LJ k4')).setCell ⟨w.heap.size, 11, none⟩ (.int .i64 g11)).setCell ⟨w.heap.size, 12, none⟩ (.int .i64 g12)).setCell ⟨w.heap.size, 13, none⟩ (.slice a5' LN k5')).setCell ⟨w.heap.size, 14, none⟩ (.int .i64 g14)).setCell ⟨w.heap.size, 15, none⟩ (.int .i64 g15)).setCell ⟨w.heap.size, 23, none⟩ (.slice a6' LT k6')) ⟨g0, ⟨g1, g2, g3, g4, g5, g6, adds, rem, seals, joins, g11, g12, next, g14, g15⟩, g16, g17, g18, g19, g20, g21, g22, tr, g24, g25, g26, g27, g28, g29⟩ ⟨⟨.slice a1' LA k1', .slice a2' LR k2', .slice a3' LQ k3', .slice a4' LJ k4', .slice a5' LN k5'⟩, us, .slice a6' LT k6', ts⟩) := by
  have p1 := T2.pokes1 1 [.int .i64 g1, .int .i64 g2, .int .i64 g3, .int .i64 g4, .int .i64 g5, .bool g6, .slice a1' LA k1', .slice a2' LR k2', .slice a3' LQ k3', .slice a4' LJ k4', .int .i64 g11, .int .i64 g12, .slice a5' LN k5', .int .i64 g14, .int .i64 g15]
  have p2 := p1.1.poke 23 (.slice a6' LT k6')
  have q2 := p2.1
  rw [pk30] at q2
  have hs1 : w.heap.size + 2 ≤ zz.heap.size := T1.two
  have e2 := p2.2
  have e1 := p1.2
  clear p1 p2
  obtain ⟨WP, hWP⟩ : ∃ W, W = (pokes z2 w.heap.size 1 [.int .i64 g1, .int .i64 g2, .int .i64 g3, .int .i64 g4, .int .i64 g5, .bool g6, .slice a1' LA k1', .slice a2' LR k2', .slice a3' LQ k3', .slice a4' LJ k4', .int .i64 g11, .int .i64 g12, .slice a5' LN k5', .int .i64 g14, .int .i64 g15]).setCell ⟨w.heap.size, 23, none⟩ (.slice a6' LT k6') := ⟨_, rfl⟩
  have kp : ∀ k, w.heap.size + 2 ≤ k → WP.heap[k]? = z2.heap[k]? := fun k hk => by rw [hWP, e2 k hk, e1 k hk]
  rw [← hWP] at q2
  have hN : WP = ((((((((((((((((z2).setCell ⟨w.heap.size, 1, none⟩ (.int .i64 g1)).setCell ⟨w.heap.size, 2, none⟩ (.int .i64 g2)).setCell ⟨w.heap.size, 3, none⟩ (.int .i64 g3)).setCell ⟨w.heap.size, 4, none⟩ (.int .i64 g4)).setCell ⟨w.heap.size, 5, none⟩ (.int .i64 g5)).setCell ⟨w.heap.size, 6, none⟩ (.bool g6)).setCell ⟨w.heap.size, 7, none⟩ (.slice a1' LA k1')).setCell ⟨w.heap.size, 8, none⟩ (.slice a2' LR k2')).setCell ⟨w.heap.size, 9, none⟩ (.slice a3' LQ k3')).setCell ⟨w.heap.size, 10, none⟩ (.slice a4' LJ k4')).setCell ⟨w.heap.size, 11, none⟩ (.int .i64 g11)).setCell ⟨w.heap.size, 12, none⟩ (.int .i64 g12)).setCell ⟨w.heap.size, 13, none⟩ (.slice a5' LN k5')).setCell ⟨w.heap.size, 14, none⟩ (.int .i64 g14)).setCell ⟨w.heap.size, 15, none⟩ (.int .i64 g15)).setCell ⟨w.heap.size, 23, none⟩ (.slice a6' LT k6') := hWP
  rw [← hN]
  clear hN hWP e1 e2
  have kb : ∀ k, w.heap.size + 2 ≤ k → k < zz.heap.size → WP.heap[k]? = zz.heap[k]? := fun k hk hk2 => by rw [kp k hk]; exact b2.block k hk2
  have o1 := ho1.mono (show w.heap.size + 2 ≤ _ from h2)
  have o2 := ho2.owl.mono hs1
  refine ⟨q2, o1.keep (fun k hk => kb k (o1.lt k hk).1 (o1.lt k hk).2), (o2.keep (fun k hk => kp k (o2.lt k hk).1)).otr, fun k hk hq => ?_⟩
  have h8 := (o1.lt k hk).2
  have h9 := (ho2.owl.lt k hq).1
  omega
set_option maxRecDepth 100000 in
set_option maxHeartbeats 16000000 in
theorem frMail_any {w : World} {m : Ml} {x : Mx} (h : MlR w m x) (hs : SmM m) :
    Calls Try.prog 40 #[.agg (mlC m x).toArray] w fun e w' => ∃ x', e = .returned (.agg (mlC m x').toArray) ∧ OM w.heap.size w' m x' ∧ Below w.heap.size w w' := by
  obtain ⟨w0, hw0⟩ : ∃ w0, w0 = (w.alloc (.cells (mlC m x).toArray 41)).alloc (.cells ml0 41) := ⟨_, rfl⟩
  have s0 : TwoB w w0 41 (mlC m x).toArray ml0 := by rw [hw0]; exact TwoB.start _ _ _ _
  have KA : Hid (∀ W, Below w.heap.size w W → Calls Try.prog 39 #[cmV m.cm x.cx] W fun e w' => ∃ a1' k1' a2' k2' a3' k3' a4' k4' a5' k5' us, e = .returned (cmV m.cm ⟨.slice a1' m.cm.adds.length k1', .slice a2' m.cm.rem.length k2', .slice a3' m.cm.seals.length k3', .slice a4' m.cm.joins.length k4', .slice a5' m.cm.next.length k5'⟩) ∧ OC W.heap.size w' m.cm ⟨.slice a1' m.cm.adds.length k1', .slice a2' m.cm.rem.length k2', .slice a3' m.cm.seals.length k3', .slice a4' m.cm.joins.length k4', .slice a5' m.cm.next.length k5'⟩ us ∧ Below W.heap.size W w') := fun W hW => frCommitS_any (h.c.bw hW) hs.c
  have KB : Hid (∀ W, Below w.heap.size w W → Calls Try.prog 60 #[.agg #[x.tv]] W fun e w' => ∃ a6' k6' ts, e = .returned (.agg #[.slice a6' m.tr.length k6']) ∧ OTr W.heap.size w' (.slice a6' m.tr.length k6') m.tr ts ∧ Below W.heap.size W w') := fun W hW => frTreeS_any (h.t.bw hW) hs.n hs.u
  obtain ⟨a1, k1, e1⟩ := h.c.adds.slice
  obtain ⟨a2, k2, e2⟩ := nums_slice h.c.rem
  obtain ⟨a3, k3, e3⟩ := h.c.seals.slice
  obtain ⟨a4, k4, e4⟩ := h.c.joins.slice
  obtain ⟨a5, k5, e5⟩ := h.c.next.slice
  obtain ⟨a6, k6, e6⟩ := h.t.slice
  have HS0 := hide hs
  clear h hs
  obtain ⟨g0, ⟨g1, g2, g3, g4, g5, g6, adds, rem, seals, joins, g11, g12, next, g14, g15⟩, g16, g17, g18, g19, g20, g21, g22, tr, g24, g25, g26, g27, g28, g29⟩ := m
  obtain ⟨⟨av, rv, qv, jv, nv⟩, us0, tv, ts0⟩ := x
  unfold cmV cmC at KA
  unfold mlC at hw0 s0 ⊢
  simp only at KA KB e1 e2 e3 e4 e5 e6 hw0 s0 ⊢
  obtain ⟨LN, hLN⟩ : ∃ z, z = next.length := ⟨_, rfl⟩
  obtain ⟨LA, hLA⟩ : ∃ z, z = adds.length := ⟨_, rfl⟩
  obtain ⟨LR, hLR⟩ : ∃ z, z = rem.length := ⟨_, rfl⟩
  obtain ⟨LQ, hLQ⟩ : ∃ z, z = seals.length := ⟨_, rfl⟩
  obtain ⟨LJ, hLJ⟩ : ∃ z, z = joins.length := ⟨_, rfl⟩
  obtain ⟨LT, hLT⟩ : ∃ z, z = tr.length := ⟨_, rfl⟩
  rw [← hLA, ← hLR, ← hLQ, ← hLJ, ← hLN] at KA
  rw [← hLT] at KB
  rw [← hLA] at e1
  rw [← hLR] at e2
  rw [← hLQ] at e3
  rw [← hLJ] at e4
  rw [← hLN] at e5
  rw [← hLT] at e6
  subst e1 e2 e3 e4 e5 e6
  have HW : Hid (w0 = (w.alloc (.cells #[.int .u8 g0, .int .i64 g1, .int .i64 g2, .int .i64 g3, .int .i64 g4, .int .i64 g5, .bool g6, .slice a1 LA k1, .slice a2 LR k2, .slice a3 LQ k3, .slice a4 LJ k4, .int .i64 g11, .int .i64 g12, .slice a5 LN k5, .int .i64 g14, .int .i64 g15, .int .i64 g16, .int .i64 g17, .int .i64 g18, .int .i64 g19, .int .i64 g20, .int .i64 g21, .int .i64 g22, .slice a6 LT k6, .int .i64 g24, .int .i64 g25, .int .i64 g26, .int .i64 g27, .int .i64 g28, .int .i64 g29] 41)).alloc (.cells #[.int .u8 0, .int .i64 0, .int .i64 0, .int .i64 0, .int .i64 0, .int .i64 0, .bool false, .slice none 0 0, .slice none 0 0, .slice none 0 0, .slice none 0 0, .int .i64 0, .int .i64 0, .slice none 0 0, .int .i64 0, .int .i64 0, .int .i64 0, .int .i64 0, .int .i64 0, .int .i64 0, .int .i64 0, .int .i64 0, .int .i64 0, .slice none 0 0, .int .i64 0, .int .i64 0, .int .i64 0, .int .i64 0, .int .i64 0, .int .i64 0] 41)) := hw0
  have S0 : Hid (TwoB w w0 41 #[.int .u8 g0, .int .i64 g1, .int .i64 g2, .int .i64 g3, .int .i64 g4, .int .i64 g5, .bool g6, .slice a1 LA k1, .slice a2 LR k2, .slice a3 LQ k3, .slice a4 LJ k4, .int .i64 g11, .int .i64 g12, .slice a5 LN k5, .int .i64 g14, .int .i64 g15, .int .i64 g16, .int .i64 g17, .int .i64 g18, .int .i64 g19, .int .i64 g20, .int .i64 g21, .int .i64 g22, .slice a6 LT k6, .int .i64 g24, .int .i64 g25, .int .i64 g26, .int .i64 g27, .int .i64 g28, .int .i64 g29] ml0) := s0
  clear hw0 s0 hLN hLA hLR hLQ hLJ hLT
  go_enter Try.func40, Try.ntmps40
  go_upto_region 1 with fail
  rw [← unhide HW]
  clear HW
  go_cut [] from 3 to 12 (fun wx => ∃ a1' k1' a2' k2' a3' k3' a4' k4' a5' k5' us a6' k6' ts, Hid (TwoB w wx 41 #[.int .u8 g0, .int .i64 g1, .int .i64 g2, .int .i64 g3, .int .i64 g4, .int .i64 g5, .bool g6, .slice a1' LA k1', .slice a2' LR k2', .slice a3' LQ k3', .slice a4' LJ k4', .int .i64 g11, .int .i64 g12, .slice a5' LN k5', .int .i64 g14, .int .i64 g15, .int .i64 g16, .int .i64 g17, .int .i64 g18, .int .i64 g19, .int .i64 g20, .int .i64 g21, .int .i64 g22, .slice a6' LT k6', .int .i64 g24, .int .i64 g25, .int .i64 g26, .int .i64 g27, .int .i64 g28, .int .i64 g29] ml0 ∧ OM (w.heap.size + 2) wx ⟨g0, ⟨g1, g2, g3, g4, g5, g6, adds, rem, seals, joins, g11, g12, next, g14, g15⟩, g16, g17, g18, g19, g20, g21, g22, tr, g24, g25, g26, g27, g28, g29⟩ ⟨⟨.slice a1' LA k1', .slice a2' LR k2', .slice a3' LQ k3', .slice a4' LJ k4', .slice a5' LN k5'⟩, us, .slice a6' LT k6', ts⟩))
  case first =>

    have x1 : w0.drew.cell? ⟨w.heap.size, 1, none⟩ = some (.int .i64 g1) := blk_c (unhide S0).k1 rfl
    have x2 : w0.drew.cell? ⟨w.heap.size, 2, none⟩ = some (.int .i64 g2) := blk_c (unhide S0).k1 rfl
    have x3 : w0.drew.cell? ⟨w.heap.size, 3, none⟩ = some (.int .i64 g3) := blk_c (unhide S0).k1 rfl
    have x4 : w0.drew.cell? ⟨w.heap.size, 4, none⟩ = some (.int .i64 g4) := blk_c (unhide S0).k1 rfl
    have x5 : w0.drew.cell? ⟨w.heap.size, 5, none⟩ = some (.int .i64 g5) := blk_c (unhide S0).k1 rfl
    have x6 : w0.drew.cell? ⟨w.heap.size, 6, none⟩ = some (.bool g6) := blk_c (unhide S0).k1 rfl
    have x7 : w0.drew.cell? ⟨w.heap.size, 7, none⟩ = some (.slice a1 LA k1) := blk_c (unhide S0).k1 rfl
    have x8 : w0.drew.cell? ⟨w.heap.size, 8, none⟩ = some (.slice a2 LR k2) := blk_c (unhide S0).k1 rfl
    have x9 : w0.drew.cell? ⟨w.heap.size, 9, none⟩ = some (.slice a3 LQ k3) := blk_c (unhide S0).k1 rfl
    have x10 : w0.drew.cell? ⟨w.heap.size, 10, none⟩ = some (.slice a4 LJ k4) := blk_c (unhide S0).k1 rfl
    have x11 : w0.drew.cell? ⟨w.heap.size, 11, none⟩ = some (.int .i64 g11) := blk_c (unhide S0).k1 rfl
    have x12 : w0.drew.cell? ⟨w.heap.size, 12, none⟩ = some (.int .i64 g12) := blk_c (unhide S0).k1 rfl
    have x13 : w0.drew.cell? ⟨w.heap.size, 13, none⟩ = some (.slice a5 LN k5) := blk_c (unhide S0).k1 rfl
    have x14 : w0.drew.cell? ⟨w.heap.size, 14, none⟩ = some (.int .i64 g14) := blk_c (unhide S0).k1 rfl
    have x15 : w0.drew.cell? ⟨w.heap.size, 15, none⟩ = some (.int .i64 g15) := blk_c (unhide S0).k1 rfl
    have x23 : w0.drew.cell? ⟨w.heap.size, 23, none⟩ = some (.slice a6 LT k6) := blk_c (unhide S0).k1 rfl
    have K1 := hide (unhide KA w0.drew (unhide S0).bel.drew)
    go_region_law (go_simp; go_wp2_with (first
      | (go_at_call 39; refine (unhide K1).mono ?_; rintro e_ zz ⟨a1', k1', a2', k2', a3', k3', a4', k4', a5', k5', us, rfl, ho1, b1⟩; have T1 := hide (((unhide S0).bw (Below.refl _ _).drew).bw b1); have y23 : zz.cell? ⟨w.heap.size, 23, none⟩ = some (.slice a6 LT k6) := blk_c (unhide T1).k1 rfl; have K2 := hide (unhide KB zz (unhide T1).bel); have HO1 := hide (And.intro ho1 b1); clear ho1 b1)
      | (go_at_call 60; refine (unhide K2).mono ?_; rintro e_ z2 ⟨a6', k6', ts, rfl, ho2, b2⟩; have T2 := hide ((unhide T1).bw b2); have u1 : z2.cell? ⟨w.heap.size, 1, none⟩ = some (.int .i64 g1) := blk_c (unhide T2).k1 rfl; have u2 : z2.cell? ⟨w.heap.size, 2, none⟩ = some (.int .i64 g2) := blk_c (unhide T2).k1 rfl; have u3 : z2.cell? ⟨w.heap.size, 3, none⟩ = some (.int .i64 g3) := blk_c (unhide T2).k1 rfl; have u4 : z2.cell? ⟨w.heap.size, 4, none⟩ = some (.int .i64 g4) := blk_c (unhide T2).k1 rfl; have u5 : z2.cell? ⟨w.heap.size, 5, none⟩ = some (.int .i64 g5) := blk_c (unhide T2).k1 rfl; have u6 : z2.cell? ⟨w.heap.size, 6, none⟩ = some (.bool g6) := blk_c (unhide T2).k1 rfl; have u7 : z2.cell? ⟨w.heap.size, 7, none⟩ = some (.slice a1 LA k1) := blk_c (unhide T2).k1 rfl; have u8 : z2.cell? ⟨w.heap.size, 8, none⟩ = some (.slice a2 LR k2) := blk_c (unhide T2).k1 rfl; have u9 : z2.cell? ⟨w.heap.size, 9, none⟩ = some (.slice a3 LQ k3) := blk_c (unhide T2).k1 rfl; have u10 : z2.cell? ⟨w.heap.size, 10, none⟩ = some (.slice a4 LJ k4) := blk_c (unhide T2).k1 rfl; have u11 : z2.cell? ⟨w.heap.size, 11, none⟩ = some (.int .i64 g11) := blk_c (unhide T2).k1 rfl; have u12 : z2.cell? ⟨w.heap.size, 12, none⟩ = some (.int .i64 g12) := blk_c (unhide T2).k1 rfl; have u13 : z2.cell? ⟨w.heap.size, 13, none⟩ = some (.slice a5 LN k5) := blk_c (unhide T2).k1 rfl; have u14 : z2.cell? ⟨w.heap.size, 14, none⟩ = some (.int .i64 g14) := blk_c (unhide T2).k1 rfl; have u15 : z2.cell? ⟨w.heap.size, 15, none⟩ = some (.int .i64 g15) := blk_c (unhide T2).k1 rfl; have u23 : z2.cell? ⟨w.heap.size, 23, none⟩ = some (.slice a6 LT k6) := blk_c (unhide T2).k1 rfl; have fz := fun j => froz_b' (i := j) (unhide T2).k1; have HO2 := hide (And.intro ho2 b2); clear ho2 b2)))
    all_goals
      have HR := frMail_cut (unhide S0).two (unhide T1) (unhide T2) (unhide HO1).1 (unhide HO2).1 (unhide HO2).2
      go_wp2_with fail
      go_meet
      case rel => exact ⟨_, _, _, _, _, _, _, _, _, _, _, _, _, _, HR⟩
  case rest =>
  obtain ⟨a1', k1', a2', k2', a3', k3', a4', k4', a5', k5', us, a6', k6', ts, hcut⟩ := hcut
  clear KA KB S0
  have HS := HS0
  obtain ⟨V1, hV1⟩ : ∃ wd, wd = wc := ⟨_, rfl⟩
  rw [← hV1]
  have s2 : TwoB w V1 41 #[.int .u8 g0, .int .i64 g1, .int .i64 g2, .int .i64 g3, .int .i64 g4, .int .i64 g5, .bool g6, .slice a1' LA k1', .slice a2' LR k2', .slice a3' LQ k3', .slice a4' LJ k4', .int .i64 g11, .int .i64 g12, .slice a5' LN k5', .int .i64 g14, .int .i64 g15, .int .i64 g16, .int .i64 g17, .int .i64 g18, .int .i64 g19, .int .i64 g20, .int .i64 g21, .int .i64 g22, .slice a6' LT k6', .int .i64 g24, .int .i64 g25, .int .i64 g26, .int .i64 g27, .int .i64 g28, .int .i64 g29] ml0 := by rw [hV1]; exact (unhide hcut).1
  have om : OM (w.heap.size + 2) V1 ⟨g0, ⟨g1, g2, g3, g4, g5, g6, adds, rem, seals, joins, g11, g12, next, g14, g15⟩, g16, g17, g18, g19, g20, g21, g22, tr, g24, g25, g26, g27, g28, g29⟩ ⟨⟨.slice a1' LA k1', .slice a2' LR k2', .slice a3' LQ k3', .slice a4' LJ k4', .slice a5' LN k5'⟩, us, .slice a6' LT k6', ts⟩ := by rw [hV1]; exact (unhide hcut).2
  clear hcut hV1
  have h1 := all_oneCell_toArray (ml_one (om.rd (unhide HS)))
  obtain ⟨C1, hC1⟩ : ∃ C : Array Value, C = #[.int .u8 g0, .int .i64 g1, .int .i64 g2, .int .i64 g3, .int .i64 g4, .int .i64 g5, .bool g6, .slice a1' LA k1', .slice a2' LR k2', .slice a3' LQ k3', .slice a4' LJ k4', .int .i64 g11, .int .i64 g12, .slice a5' LN k5', .int .i64 g14, .int .i64 g15, .int .i64 g16, .int .i64 g17, .int .i64 g18, .int .i64 g19, .int .i64 g20, .int .i64 g21, .int .i64 g22, .slice a6' LT k6', .int .i64 g24, .int .i64 g25, .int .i64 g26, .int .i64 g27, .int .i64 g28, .int .i64 g29] := ⟨_, rfl⟩
  have z1 : C1.all (·.oneCell') = true := by rw [hC1]; exact h1
  have z0 : C1.size = 30 := by rw [hC1]; rfl
  have z2 : (Try.prog.info? 41).map (·.size) = some C1.size := by
    obtain ⟨j0, hj, _, hy1, _⟩ := info_parts infoKMail
    rw [z0, hj]; simp [hy1]
  rw [← hC1] at s2
  have HO : Hid (OM w.heap.size (V1.setRow (w.heap.size + 1) C1) ⟨g0, ⟨g1, g2, g3, g4, g5, g6, adds, rem, seals, joins, g11, g12, next, g14, g15⟩, g16, g17, g18, g19, g20, g21, g22, tr, g24, g25, g26, g27, g28, g29⟩ ⟨⟨.slice a1' LA k1', .slice a2' LR k2', .slice a3' LQ k3', .slice a4' LJ k4', .slice a5' LN k5'⟩, us, .slice a6' LT k6', ts⟩ ∧ Below w.heap.size w (V1.setRow (w.heap.size + 1) C1)) :=
    ⟨(om.keep (fun k hk => setRow_other _ _ _ _ (by have := (om.lt k hk).1; omega))).mono (by omega), below_setRow' s2.bel (by omega) _⟩
  have HC := hide hC1
  have HZ := hide (And.intro s2.k1 (And.intro s2.k2 (And.intro z0 (And.intro z1 z2))))
  clear om s2 hC1 z0 z1 z2 h1 HS
  go_wp2_with (first | refine wpList_load_row rfl 41 (.tmp 1) rfl w.heap.size rfl 41 C1 (0, 0) _ (unhide HZ).1 Try.underlying41 rfl (unhide HZ).2.2.2.2 ?_ | refine wpList_store_row rfl 41 (.tmp 2) (.tmp 13) rfl (w.heap.size + 1) C1 rfl rfl 41 ml0 (unhide HZ).2.1 (unhide HZ).2.2.2.2 (by rw [(unhide HZ).2.2.1]; rfl) (unhide HZ).2.2.2.1 ?_)
  refine bodyPost_ret (v := .agg C1) (results_cell_row Try.results40 _ _ (w.heap.size + 1) 41 C1 (0, 0) _ rfl (setRow_heap _ _ _ _ _ _ (unhide HZ).2.1) Try.underlying41 rfl (unhide HZ).2.2.2.2) rfl ⟨⟨⟨.slice a1' LA k1', .slice a2' LR k2', .slice a3' LQ k3', .slice a4' LJ k4', .slice a5' LN k5'⟩, us, .slice a6' LT k6', ts⟩, by rw [unhide HC], (unhide HO).1, (unhide HO).2⟩
end Go.Proofs.Ytinkfjjpnooomaa
