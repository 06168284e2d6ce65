/- TermNone: for every term and every number, the law answers true: a store that is not there, or that no call made, has no terms and says so. No condition. -/
import Derived.Test.YticljbimbbiedaaTmFrame
import Derived.Test.YticljbimbbiedaaTmNil
namespace Go.Proofs.Yticljbimbbiedaa
open Go.ChangeShapes Go.WideShapes Go.ChangeAt Go.RowKit Go.Joins Go.Maps

set_option maxRecDepth 100000 in
set_option maxHeartbeats 8000000 in
theorem TermNone_walk (w : World) (k m x y : Int) (n : Int) (_n1 : -9223372036854775808 ≤ n) (_n2 : n ≤ 9223372036854775807) :
    Calls Try.prog 4 #[.agg #[.int .u8 k, .int .i64 m, .int .i64 x, .int .i64 y], .int .i64 n] w fun e w' => e = .returned (.bool true) ∧ Below w.heap.size w w' := by
  have hbx : TAt (w.alloc (.cells #[.int .u8 k, .int .i64 m, .int .i64 x, .int .i64 y] 47)) w.heap.size 0 ⟨k, m, x, y⟩ := by
    unfold TAt World.cell?; simp only [heap_alloc_new]; exact ⟨rfl, rfl, rfl, rfl⟩
  have HX := hide (And.intro hbx (bw_alloc w (.cells #[.int .u8 k, .int .i64 m, .int .i64 x, .int .i64 y] 47)))
  clear hbx
  go_enter Try.func4, Try.ntmps4
  go_wp2_with fail
  go_loopw [6] (fun iv wr => ∃ i : Nat, i ≤ 2 ∧ iv = .int .i64 (i : Int) ∧ Hid (TAt wr w.heap.size 0 ⟨k, m, x, y⟩ ∧ Below w.heap.size w wr ∧ w.heap.size < wr.heap.size)) (fun iv _ => (2 - intOf iv).toNat)
  case atStart => exact ⟨0, by omega, rfl, ⟨(unhide HX).1, (unhide HX).2, by simp⟩⟩
  case round =>
    obtain ⟨i, hi, rfl, HR⟩ := hrel
    clear HX
    match i, hi with
    | 0, _ =>
      obtain ⟨⟨t0, t1, t2, t3⟩, hbel, hlt⟩ := unhide HR
      simp only [Nat.zero_add] at t1 t2 t3
      have HNW := noway_nil wr
      go_wp2_with fail
      refine (make_none (.pointer none) k m x y wr HNW).mono ?_
      rintro e w1 ⟨rfl, hb1⟩
      have N1 := Noway.bw HNW hb1
      go_wp2_with fail
      refine (list_none _ _ w1 N1).mono ?_
      rintro e w1 ⟨rfl, rfl⟩
      have N2 := Noway.bw N1 (bw_alloc w1 (.cells #[.int .i64 1] 2))
      go_wp2_with fail
      refine (data_none _ _ _ N2).mono ?_
      rintro e w2 ⟨rfl, rfl⟩
      go_wp2_with fail
      refine (get_nobody _ n _ N2).mono ?_
      rintro e w3 ⟨rfl, hb3⟩
      have N3 := N2.bw hb3
      have N4 := N3.bw (bw_alloc w3 (.cells #[.int .u8 0, .int .i64 0, .int .i64 0, .int .i64 0] 47))
      have hbA : Below wr.heap.size wr (w3.alloc (.cells #[.int .u8 0, .int .i64 0, .int .i64 0, .int .i64 0] 47)) := bw_tr (bw_tr (bw_tr hb1 (bw_alloc w1 _)) hb3) (bw_alloc w3 _)
      have HR2 : Hid (TAt (w3.alloc (.cells #[.int .u8 0, .int .i64 0, .int .i64 0, .int .i64 0] 47)) w.heap.size 0 ⟨k, m, x, y⟩ ∧ Below w.heap.size w (w3.alloc (.cells #[.int .u8 0, .int .i64 0, .int .i64 0, .int .i64 0] 47)) ∧ w.heap.size < (w3.alloc (.cells #[.int .u8 0, .int .i64 0, .int .i64 0, .int .i64 0] 47)).heap.size) :=
        ⟨(unhide HR).1.keep (hbA.block _ hlt), bw_tr hbel hbA, Nat.lt_of_lt_of_le hlt hbA.size⟩
      go_wp2_with fail
      refine (len_nobody _ _ N4).mono ?_
      rintro e w4 ⟨rfl, rfl⟩
      go_wp2_with fail
      refine (dag_none _ n _ N4).mono ?_
      rintro e w4 ⟨rfl, rfl⟩
      go_wp2_with fail
      go_roundw
      case rel => exact ⟨1, by omega, by go_num, HR2⟩
      case measure => simp [intOf]
    | 1, _ =>
      obtain ⟨⟨t0, t1, t2, t3⟩, hbel, hlt⟩ := unhide HR
      simp only [Nat.zero_add] at t1 t2 t3
      have HNW := noway_zero wr
      go_wp2_with fail
      refine (make_none (.pointer (some ⟨wr.heap.size, 0, none⟩)) k m x y (wr.alloc (.cells #[.slice none 0 0, .map none] 50)) HNW).mono ?_
      rintro e w1 ⟨rfl, hb1⟩
      have N1 := Noway.bw HNW hb1
      go_wp2_with fail
      refine (list_none _ _ w1 N1).mono ?_
      rintro e w1 ⟨rfl, rfl⟩
      have N2 := Noway.bw N1 (bw_alloc w1 (.cells #[.int .i64 1] 2))
      go_wp2_with fail
      refine (data_none _ _ _ N2).mono ?_
      rintro e w2 ⟨rfl, rfl⟩
      go_wp2_with fail
      refine (get_nobody _ n _ N2).mono ?_
      rintro e w3 ⟨rfl, hb3⟩
      have N3 := N2.bw hb3
      have N4 := N3.bw (bw_alloc w3 (.cells #[.int .u8 0, .int .i64 0, .int .i64 0, .int .i64 0] 47))
      have hbA : Below wr.heap.size wr (w3.alloc (.cells #[.int .u8 0, .int .i64 0, .int .i64 0, .int .i64 0] 47)) := bw_tr (bw_tr (bw_tr (bw_tr (bw_alloc wr _) hb1) (bw_alloc w1 _)) hb3) (bw_alloc w3 _)
      have HR2 : Hid (TAt (w3.alloc (.cells #[.int .u8 0, .int .i64 0, .int .i64 0, .int .i64 0] 47)) w.heap.size 0 ⟨k, m, x, y⟩ ∧ Below w.heap.size w (w3.alloc (.cells #[.int .u8 0, .int .i64 0, .int .i64 0, .int .i64 0] 47)) ∧ w.heap.size < (w3.alloc (.cells #[.int .u8 0, .int .i64 0, .int .i64 0, .int .i64 0] 47)).heap.size) :=
        ⟨(unhide HR).1.keep (hbA.block _ hlt), bw_tr hbel hbA, Nat.lt_of_lt_of_le hlt hbA.size⟩
      go_wp2_with fail
      refine (len_nobody _ _ N4).mono ?_
      rintro e w4 ⟨rfl, rfl⟩
      go_wp2_with fail
      refine (dag_none _ n _ N4).mono ?_
      rintro e w4 ⟨rfl, rfl⟩
      go_wp2_with fail
      go_roundw
      case rel => exact ⟨2, by omega, by go_num, HR2⟩
      case measure => simp [intOf]
    | 2, _ =>
      go_wp2_with fail
      refine (lives_any _).mono ?_
      rintro e w9 ⟨rfl, hb9⟩
      have hb := bw_tr (unhide HR).2.1 hb9
      go_wp2_with fail
      go_ret
      exact ⟨rfl, hb⟩
    | i + 3, h => exact absurd h (by omega)

set_option maxRecDepth 100000 in
theorem TermNone_lifted (os : Os) (started : os.Started) (H : Type) (enc : TypeId × Value → H) :
    ReturnsInHanded {} Try.checked os 4 .any (Rows.termNoneSpec.pre6 enc Try.prog Try.f4 Rows.termNoneRow.domain false) (Rows.termNoneSpec.post enc Try.prog Try.f4 false true false false) := by
  refine returnsInHanded_of_change_sized (C := Try.checked) own started (by kernel_rfl) Try.func4
    (ChangeSpec.witness6 (enc := enc) (C := Try.checked) false ⟨#[], #[.agg #[.int .u8 0, .int .i64 0, .int .i64 0, .int .i64 0], .int .i64 0], []⟩ 8 (by kernel_rfl) (by kernel_rfl) (by kernel_rfl) (by kernel_rfl)) ?_
  intro W base args ds gs before hval0 hW hcnd hsz0 _
  have hval : ∀ (j : Nat) t v, Try.f4.params[j]? = some t → args[j]? = some v → Value.okWide Try.prog W .any base t v := hval0
  have hsz : (DataW.weightsEach Try.prog (Try.f4.params.toList ++ Rows.termNoneSpec.plain.varTypes Try.prog) (ds ++ gs)).all (· ≤ reachBytes) = true := hsz0
  have hW' := hW
  obtain ⟨p, q, hA0, hV, rfl, hfz, hnd⟩ := hW
  have hA : DataW.TrodAll enc Try.prog W 0 (fun _ => true) true Try.f4.params.toList args.toList ds p := hA0
  rw [Try.params4] at hA hval hsz
  obtain ⟨v0, vs0, d0, ds0, p0, q0, hargs, rfl, rfl, h0, r0⟩ := trodAll_cons hA
  obtain ⟨v1, vs1, d1, ds1, p1, q1, rfl, rfl, rfl, h1, r1⟩ := trodAll_cons r0
  obtain ⟨rfl, rfl, rfl⟩ := trodAll_nil r1
  obtain rfl : args = #[v0, v1] := by cases args; simp_all
  obtain ⟨rfl, rfl⟩ := trodVars_none hV
  have k0 := h0
  have lt0 : ∀ x ∈ p0, x.block < W.heap.size := by obtain ⟨m, hm⟩ := k0; exact DataW.trod_lt m _ _ _ hm
  obtain ⟨c0, c1, c2, c3, y0, y1, y2, y3, m, rfl, hd, hp, hy0, hy1, hy2, hy3⟩ := open_agg4 Try.underlying47 (by kernel_rfl) Try.cellsTerm (hval 0 47 v0 rfl rfl) h0
  obtain ⟨x0, e0, _, z0⟩ := DataW.trod_int Try.underlying45 hy0
  obtain ⟨x1, e1, _, z1⟩ := DataW.trod_int Try.underlying2 hy1
  obtain ⟨x2, e2, _, z2⟩ := DataW.trod_int Try.underlying3 hy2
  obtain ⟨x3, e3, _, z3⟩ := DataW.trod_int Try.underlying3 hy3
  simp at e0 e1 e2 e3
  subst e0 e1 e2 e3
  obtain ⟨a1, rfl, rfl, rfl, w1⟩ := open_int Try.underlying3 (hval 1 3 v1 rfl rfl) h1
  clear hA0 hval0
  refine (TermNone_walk W x0 x1 x2 x3 a1 (bounds64 w1).1 (bounds64 w1).2).mono fun e W' ⟨he, bel⟩ => ?_
  subst he
  exact ⟨_, rfl, _, _, _, [], _, [], hW', trodAll_mk1 (shut_bool Try.underlying4 _), (trodAll_cons_mk (Below.trod laidOut (by kernel_rfl) (of_decide_eq_true (by kernel_rfl)) k0 bel lt0) (trodAll_cons_mk (shut_int Try.underlying3 w1) trodAll_mk0)), rfl, bel.frame _, fun h => by cases h⟩

theorem TermNone_over : Rows.termNoneRow.holds Try.pinned (OpenSpec.ofChange Rows.termNoneSpec) :=
  OpenClaim.holds_of_wide 4 Try.f4 rfl rfl rfl rfl rfl rfl rfl ⟨rfl, rfl, rfl, rfl, rfl⟩ rfl rfl rfl rfl rfl (by kernel_rfl) Try.func4 (by kernel_rfl)
    (of_decide_eq_true (by kernel_rfl)) (by unfold Func.isWrapper; first | (rw [if_pos (by decide +kernel)]; kernel_rfl) | (rw [if_neg (by decide +kernel)]; exact ⟨rfl, rfl⟩))
    (fun os started H enc _ => TermNone_lifted os started H enc)

theorem TermNone_holds : Rows.TermNoneSaid := TermNone_over
#print axioms TermNone_holds

end Go.Proofs.Yticljbimbbiedaa
