/- IndexNodes: for every number x and every number of leaves, the law answers true: level, children and leaves of x, and the width and root of the tree, are the document's. No condition. -/
import Derived.Test.YtkamcjmimfjnkaaDoorIxFrame
import Derived.Test.YtkamcjmimfjnkaaDoorCards
import Derived.Test.YtkamcjmimfjnkaaDoorTie
import Derived.Test.YtkamcjmimfjnkaaDoorIxRefB
namespace Go.Proofs.YtkamcjmimfjnkaaDoor
open Go.ChangeShapes Go.WideShapes Go.ChangeAt Go.RowKit

set_option maxRecDepth 100000 in
set_option maxHeartbeats 4000000 in
theorem IndexNodes_walk (x y : Int) (w : World) (_x1 : -9223372036854775808 ≤ x) (x2 : x ≤ 9223372036854775807) (_y1 : -9223372036854775808 ≤ y) (_y2 : y ≤ 9223372036854775807) (hT : Tab w) :
    Calls Tryd.prog 3 #[.int .i64 x, .int .i64 y] w fun e w' => e = .returned (.bool true) ∧ Below w.heap.size w w' := by
  have K1 := left_any x w x2 hT
  have K2 := right_any x w x2 hT
  have R1 := rleft_any x w x2
  have R2 := rright_any x w x2
  have K3 := span_any x w x2 hT
  have R3 := rspan_any x w x2
  have K4 := level_any x w x2 hT
  have R4 := rlevel_any x w x2
  have K5 := width_any y w
  have R5 := rwidth_any y w
  have K6 := root_any y w
  have R6 := rroot_any y w
  generalize lfV x = V1 at *
  generalize rtV x = V2 at *
  generalize lfB x = B1 at *
  generalize rtB x = B2 at *
  generalize spF x = S1 at *
  generalize spT x = S2 at *
  generalize lvl x = L1 at *
  generalize wid y = W1 at *
  generalize rot y = W2 at *
  go_enter Tryd.func3, Tryd.ntmps3
  go_wp2_with fail
  refine (K1).mono ?_
  rintro e w ⟨rfl, rfl⟩
  go_wp2_with fail
  refine (K2).mono ?_
  rintro e w ⟨rfl, rfl⟩
  go_wp2_with fail
  refine (R1).mono ?_
  rintro e w ⟨rfl, rfl⟩
  go_wp2_with fail
  refine (R2).mono ?_
  rintro e w ⟨rfl, rfl⟩
  go_wp2_with fail
  refine (K3).mono ?_
  rintro e w ⟨rfl, rfl⟩
  go_wp2_with fail
  refine (R3).mono ?_
  rintro e w ⟨rfl, rfl⟩
  go_wp2_with fail
  refine (K4).mono ?_
  rintro e w ⟨rfl, rfl⟩
  go_wp2_with fail
  refine (R4).mono ?_
  rintro e w ⟨rfl, rfl⟩
  go_wp2_with fail
  refine (K5).mono ?_
  rintro e w ⟨rfl, rfl⟩
  go_wp2_with fail
  refine (R5).mono ?_
  rintro e w ⟨rfl, rfl⟩
  go_wp2_with fail
  refine (K6).mono ?_
  rintro e w ⟨rfl, rfl⟩
  go_wp2_with fail
  refine (R6).mono ?_
  rintro e w ⟨rfl, rfl⟩
  go_wp2_with fail
  refine (alive_any w hT).mono ?_
  rintro e w9 ⟨rfl, hb9⟩
  go_wp2
  go_ret
  exact ⟨rfl, hb9⟩

set_option maxRecDepth 100000 in
theorem IndexNodes_lifted (os : Os) (started : os.Started) (H : Type) (enc : TypeId × Value → H) :
    ReturnsInHanded {} Tryd.checked os 3 .any (fun w args => (Rows.indexNodesSpec.pre enc Tryd.prog Tryd.f3 [] false w args ∧ laidMetH Tryd.prog laidTab w) ∧ sizedMet enc Tryd.prog Tryd.f3 (OpenSpec.ofChange Rows.indexNodesSpec) false w args)
      (Rows.indexNodesSpec.post enc Tryd.prog Tryd.f3 false true false false) := by
  refine returnsInHanded_of_change_and (C := Tryd.checked) (X := fun w _ => laidMetH Tryd.prog laidTab w) (fun _ _ _ hh h => h.of_heap hh) own started (by kernel_rfl) Tryd.func3
    (ChangeSpec.witness_shaped (enc := enc) (C := Tryd.checked) (os := os) (X := fun w _ => laidMetH Tryd.prog laidTab w) false (World.doorLaid Tryd.prog 14 os) #[.int .i64 0, .int .i64 0] 8 rfl (World.shaped_of_RefB (by kernel_rfl) (by kernel_rfl)) (by kernel_rfl) (by kernel_rfl) (by kernel_rfl) (door_met os _)) ?_
  intro W base args ds gs before hval0 hW _ _ hL _
  have hval : ∀ (j : Nat) t v, Tryd.f3.params[j]? = some t → args[j]? = some v → Value.okWide Tryd.prog W .any base t v := hval0
  have hW' := hW
  obtain ⟨p, q, hA0, hV, rfl, hfz, hnd⟩ := hW
  have hA : DataW.TrodAll enc Tryd.prog W 0 (fun _ => true) true Tryd.f3.params.toList args.toList ds p := hA0
  rw [Tryd.params3] at hA hval
  obtain ⟨v0, vs0, d0, ds0, p0, q0, hargs, rfl, rfl, h0, r0⟩ := trodAll_cons hA
  obtain ⟨v1, vs1, d1, ds1, p1, q1, rfl, rfl, rfl, h1, r1⟩ := trodAll_cons r0
  obtain ⟨rfl, rfl, rfl⟩ := trodAll_nil r1
  obtain rfl : args = #[v0, v1] := by cases args; simp_all
  obtain ⟨rfl, rfl⟩ := trodVars_none hV
  obtain ⟨a0, rfl, rfl, rfl, w0⟩ := open_int Tryd.underlying3 (hval 0 3 v0 rfl rfl) h0
  obtain ⟨a1, rfl, rfl, rfl, w1⟩ := open_int Tryd.underlying3 (hval 1 3 v1 rfl rfl) h1
  clear hA0 hval0
  refine (IndexNodes_walk a0 a1 W (bounds64 w0).1 (bounds64 w0).2 (bounds64 w1).1 (bounds64 w1).2 (tab_of_laid hL)).mono fun e W' ⟨he, bel⟩ => ?_
  subst he
  exact ⟨_, rfl, _, _, _, [], _, [], hW', trodAll_mk1 (shut_bool Tryd.underlying4 _), (trodAll_cons_mk (shut_int Tryd.underlying3 w0) (trodAll_cons_mk (shut_int Tryd.underlying3 w1) trodAll_mk0)), rfl, bel.frame _, fun h => by cases h⟩

theorem IndexNodes_over : Rows.IndexNodesSaid :=
  OpenClaim.holds_of_wide 3 Tryd.f3 rfl rfl rfl rfl rfl rfl rfl ⟨rfl, rfl, rfl, rfl, rfl⟩ rfl rfl rfl rfl rfl (by kernel_rfl) Tryd.func3 (by kernel_rfl)
    (of_decide_eq_true (by kernel_rfl)) (by unfold Func.isWrapper; first | (rw [if_pos (by decide +kernel)]; kernel_rfl) | (rw [if_neg (by decide +kernel)]; exact ⟨rfl, rfl⟩))
    (fun os started H enc _ => IndexNodes_lifted os started H enc)

theorem IndexNodes_holds : Rows.IndexNodesCardSaid :=
  Claim7.holds_tied_plain_at .later [] [.data] true (Rows.indexNodesCard.stood.harness) false
    IndexNodes_over (fun _ h => by cases h) (by kernel_rfl) (fun _ h => by cases h) indexNodes_row_tie rfl ⟨rfl, rfl⟩ (by kernel_rfl) rfl
    (fun f fn hf hfn => by
      obtain rfl : f = 3 := Option.some.inj ((show Tryd.prog.funcNamed "phratry/phratrylaw02.IndexNodes" = some 3 by kernel_rfl).symm.trans hf) |>.symm
      obtain rfl : fn = Tryd.f3 := (Option.some.inj (Tryd.func3.symm.trans hfn)).symm
      exact ⟨by kernel_rfl, fun j t ht => by
        rw [Tryd.params3] at ht
        have hm : t ∈ [3, 3] := by simpa using Array.mem_of_getElem? ht
        have hall : ([3, 3].all fun u => !Tryd.prog.wantsStandIn u) = true := by kernel_rfl
        exact (show Tryd.prog.wantsStandIn t = false by simpa using List.all_eq_true.1 hall t hm)⟩)
    (by kernel_rfl)
#print axioms IndexNodes_holds

end Go.Proofs.YtkamcjmimfjnkaaDoor
