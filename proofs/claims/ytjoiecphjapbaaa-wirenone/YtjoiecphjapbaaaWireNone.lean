/- WireNone: for every item, the law answers true: a Writer and a Reader that are not there, or that no call made, answer ErrNil and do nothing. No condition. -/
import Derived.Test.YtjoiecphjapbaaaRows
import Derived.Test.YtjoiecphjapbaaaFrame
namespace Go.Proofs.Ytjoiecphjapbaaa
open Go.ChangeShapes Go.WideShapes Go.ChangeAt Go.RowKit Go.Joins

/-- What stands in memory while the law goes: the item, a Writer and a Reader that no call made. -/
structure NoneW (w w' : World) (kd n : Int) (s : ByteArray) : Prop where
  a : w'.heap[w.heap.size]? = some (.cells #[.int .i64 kd, .int .i64 n, .string s] 32 (0, 0))
  b : w'.heap[w.heap.size + 1]? = some (.cells #[.bool false, .slice none 0 0] 54 (0, 0))
  c : w'.heap[w.heap.size + 2]? = some (.cells #[.bool false, .string ⟨#[]⟩, .int .i64 0] 56 (0, 0))
  below : Below w.heap.size w w'
  size : w.heap.size + 3 ≤ w'.heap.size
theorem NoneW.step {w w1 w2 : World} {kd n : Int} {s : ByteArray} (h : NoneW w w1 kd n s) (hb : Below w1.heap.size w1 w2) : NoneW w w2 kd n s := by
  have hs := h.size
  exact ⟨by rw [hb.block _ (by omega)]; exact h.a, by rw [hb.block _ (by omega)]; exact h.b, by rw [hb.block _ (by omega)]; exact h.c, h.below.trans (hb.mono (by omega)), Nat.le_trans hs hb.size⟩
theorem NoneW.item {w w' : World} {kd n : Int} {s : ByteArray} (h : NoneW w w' kd n s) :
    w'.cell? ⟨w.heap.size, 0, none⟩ = some (.int .i64 kd) ∧ w'.cell? ⟨w.heap.size, 1, none⟩ = some (.int .i64 n) ∧ w'.cell? ⟨w.heap.size, 2, none⟩ = some (.string s) := by
  simp [World.cell?, h.a]
theorem NoneW.wr {w w' : World} {kd n : Int} {s : ByteArray} (h : NoneW w w' kd n s) : w'.cell? ⟨w.heap.size + 1, 0, none⟩ = some (.bool false) := by simp [World.cell?, h.b]
theorem NoneW.rd {w w' : World} {kd n : Int} {s : ByteArray} (h : NoneW w w' kd n s) : w'.cell? ⟨w.heap.size + 2, 0, none⟩ = some (.bool false) := by simp [World.cell?, h.c]

set_option maxHeartbeats 1000000 in
theorem WireNone_walk (kd n : Int) (s : ByteArray) (w : World) :
    Calls Try.prog 7 #[.agg #[.int .i64 kd, .int .i64 n, .string s]] w fun e w' => e = .returned (.bool true) ∧ Below w.heap.size w w' := by
  have K1 : ∀ (p : Value) (w : World), (∀ o, Calls Try.prog 35 #[p] (w.alloc o) fun e w' => e = .returned (.bool true) ∧ w' = w.alloc o) →
      Calls Try.prog 13 #[p, .agg #[.int .i64 kd, .int .i64 n, .string s]] w fun e w' => e = .returned (.int .i64 2) ∧ Below w.heap.size w w' := fun p w h => write_nil p ⟨kd, n, s⟩ w h
  have N0 : NoneW w (((w.alloc (.cells #[.int .i64 kd, .int .i64 n, .string s] 32)).alloc (.cells #[.bool false, .slice none 0 0] 54)).alloc (.cells #[.bool false, .string ⟨#[]⟩, .int .i64 0] 56)) kd n s := by
    have H3 := heap3 w (.cells #[.int .i64 kd, .int .i64 n, .string s] 32) (.cells #[.bool false, .slice none 0 0] 54) (.cells #[.bool false, .string ⟨#[]⟩, .int .i64 0] 56)
    refine ⟨H3.1, H3.2.1, H3.2.2, (((Below.refl _ _).alloc (by omega) _).alloc (by simp) _).alloc (by simp; omega) _, by simp⟩
  have K0 := K1 (.pointer none) _ (fun o => wmiss_nil ((((w.alloc (.cells #[.int .i64 kd, .int .i64 n, .string s] 32)).alloc (.cells #[.bool false, .slice none 0 0] 54)).alloc (.cells #[.bool false, .string ⟨#[]⟩, .int .i64 0] 56)).alloc o))
  go_enter Try.func7, Try.ntmps7
  go_wp2_with fail
  refine K0.mono ?_
  rintro e w2 ⟨rfl, hb2⟩
  have N2 := N0.step hb2
  obtain ⟨i1, i2, i3⟩ := N2.item
  clear N0 K0 hb2
  go_wp2_with fail
  refine (K1 _ _ (fun o => wmiss_at _ _ _ ((World.cell?_of_block (w := w2) (Below.heap_alloc _ _ _ (by have := N2.size; simp; omega))).trans N2.wr))).mono ?_
  rintro e w3 ⟨rfl, hb3⟩
  have N3 := N2.step hb3
  clear N2 hb3 i1 i2 i3 K1
  go_wp2_with fail
  refine (wBytes_nil _ _ (wmiss_nil _)).mono ?_
  rintro e w4 ⟨rfl, rfl⟩
  go_wp2_with fail
  refine (wBytes_nil _ _ (wmiss_at _ _ _ N3.wr)).mono ?_
  rintro e w4 ⟨rfl, rfl⟩
  go_wp2_with fail
  refine (rNumber_nil _).mono ?_
  rintro e w5 ⟨rfl, hb5⟩
  have N5 := N3.step hb5
  clear N3 hb5
  go_wp2_with fail
  refine (rText_zero _ _ N5.rd).mono ?_
  rintro e w6 ⟨rfl, hb6⟩
  have N6 := N5.step hb6
  clear N5 hb6
  go_wp2_with fail
  refine (rByte_nil _).mono ?_
  rintro e w7 ⟨rfl, hb7⟩
  have N7 := N6.step hb7
  clear N6 hb7
  go_wp2_with fail
  refine (rFlag_zero _ _ N7.rd).mono ?_
  rintro e w8 ⟨rfl, hb8⟩
  have N8 := N7.step hb8
  clear N7 hb8
  go_wp2_with fail
  refine (rList_nil _).mono ?_
  rintro e w9 ⟨rfl, hb9⟩
  have N9 := N8.step hb9
  clear N8 hb9
  go_wp2_with fail
  refine (at_nil _ _ (rmiss_nil _)).mono ?_
  rintro e w10 ⟨rfl, rfl⟩
  go_wp2_with fail
  refine (at_nil _ _ (rmiss_at _ _ _ N9.rd)).mono ?_
  rintro e w10 ⟨rfl, rfl⟩
  go_wp2_with fail
  refine (end_nil _ _ (rmiss_nil _)).mono ?_
  rintro e w10 ⟨rfl, rfl⟩
  go_wp2_with fail
  refine (end_nil _ _ (rmiss_at _ _ _ N9.rd)).mono ?_
  rintro e w10 ⟨rfl, rfl⟩
  go_wp2_with fail
  refine (alive_any _).mono ?_
  rintro e w11 ⟨rfl, hb11⟩
  have N11 := N9.step hb11
  go_wp2
  go_ret
  exact ⟨rfl, N11.below⟩
set_option maxRecDepth 100000 in
theorem WireNone_lifted (os : Os) (started : os.Started) (H : Type) (enc : TypeId × Value → H) :
    ReturnsInHanded {} Try.checked os 7 .any (Rows.wireNoneSpec.pre6 enc Try.prog Try.f7 Rows.wireNoneRow.domain false) (Rows.wireNoneSpec.post enc Try.prog Try.f7 false true false false) := by
  refine returnsInHanded_of_change (C := Try.checked) own started (by kernel_rfl) Try.func7
    (ChangeSpec.witness6 (enc := enc) (C := Try.checked) false ⟨#[], #[.agg #[.int .i64 0, .int .i64 0, .string ByteArray.empty]], []⟩ 8 (by kernel_rfl) (by kernel_rfl) (by kernel_rfl) (by kernel_rfl)) ?_
  intro W base args ds gs before hval0 hW hcnd _
  have hval : ∀ (j : Nat) t v, Try.f7.params[j]? = some t → args[j]? = some v → Value.okWide Try.prog W .any base t v := hval0
  have hW' := hW
  obtain ⟨p, q, hA0, hV, rfl, hfz, hnd⟩ := hW
  have hA : DataW.TrodAll enc Try.prog W 0 (fun _ => true) true Try.f7.params.toList args.toList ds p := hA0
  rw [Try.params7] at hA hval
  obtain ⟨v0, vs0, d0, ds0, p0, q0, hargs, rfl, rfl, h0, r0⟩ := trodAll_cons hA
  obtain ⟨rfl, rfl, rfl⟩ := trodAll_nil r0
  obtain rfl : args = #[v0] := by cases args; simp_all
  obtain ⟨rfl, rfl⟩ := trodVars_none hV
  have k0 := h0
  have lt0 : ∀ x ∈ p0, x.block < W.heap.size := by obtain ⟨m, hm⟩ := k0; exact DataW.trod_lt m _ _ _ hm
  obtain ⟨c0, c1, c2, y0, y1, y2, m, rfl, hd, hp, hy0, hy1, hy2⟩ := open_agg3 Try.underlying32 (by kernel_rfl) cellsItem (hval 0 32 v0 rfl rfl) h0
  obtain ⟨a, e0, _, wa⟩ := DataW.trod_int Try.underlying3 hy0
  obtain ⟨b, e1, _, wb⟩ := DataW.trod_int Try.underlying2 hy1
  obtain ⟨s, e2, _, ws⟩ := DataW.trod_string Try.underlying9 hy2
  simp at e0 e1 e2
  subst e0 e1 e2
  clear hA0 hval0
  refine (WireNone_walk a b s W).mono fun e W' ⟨he, bel⟩ => ?_
  subst he
  exact ⟨_, rfl, _, _, _, [], _, [], hW', trodAll_mk1 (shut_bool Try.underlying4 _), (trodAll_cons_mk (Below.trod laidOut (by kernel_rfl) (of_decide_eq_true (by kernel_rfl)) k0 bel lt0) trodAll_mk0), rfl, bel.frame _, fun h => by cases h⟩

theorem WireNone_over : Rows.wireNoneRow.holds Try.pinned (OpenSpec.ofChange Rows.wireNoneSpec) :=
  OpenClaim.holds_of_wide 7 Try.f7 rfl rfl rfl rfl rfl rfl rfl ⟨rfl, rfl, rfl, rfl, rfl⟩ rfl rfl rfl rfl rfl (by kernel_rfl) Try.func7 (by kernel_rfl)
    (of_decide_eq_true (by kernel_rfl)) (by unfold Func.isWrapper; first | (rw [if_pos (by decide +kernel)]; kernel_rfl) | (rw [if_neg (by decide +kernel)]; exact ⟨rfl, rfl⟩))
    (fun os started H enc _ => WireNone_lifted os started H enc)

theorem WireNone_holds : Rows.WireNoneSaid := WireNone_over
#print axioms WireNone_holds

end Go.Proofs.Ytjoiecphjapbaaa
