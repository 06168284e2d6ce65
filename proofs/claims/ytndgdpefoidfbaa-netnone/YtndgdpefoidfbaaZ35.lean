/- Texts joined: NeLawNone NetNone. -/
import Derived.Test.YtndgdpefoidfbaaZ34
import Derived.Test.YtndgdpefoidfbaaZ30
import Derived.Test.YtndgdpefoidfbaaZ31
/- NetNone: the walk. -/
namespace Go.Proofs.Ytndgdpefoidfbaa
open Go.RowKit Go.Maps
theorem built_net0 : Try.prog.built 61 [] = some #[.bool false, .slice none 0 0] := by kernel_rfl
set_option maxRecDepth 100000 in
set_option maxHeartbeats 1000000 in
theorem none_any {w : World} {p : Pt} {y : Fx} (hp : FdR w p.fd y) (at_ : Int) :
    Calls Try.prog 4 #[.agg (ptC p y).toArray, .int .i64 at_] w fun e w' => e = .returned (.bool true) ∧ Below w.heap.size w w' := by
  obtain ⟨PF, hPF⟩ : ∃ z, z = fdC p.fd y := ⟨_, rfl⟩
  obtain ⟨PS, hPS⟩ : ∃ z, z = ptC p y := ⟨_, rfl⟩
  obtain ⟨w0, hw0⟩ : ∃ w0, w0 = w.alloc (.cells PS.toArray 44) := ⟨_, rfl⟩
  have bl : Below w.heap.size w w0 := by rw [hw0]; exact bwA _ _
  have k1 : w0.heap[w.heap.size]? = some (.cells PS.toArray 44 (0, 0)) := by rw [hw0]; exact heap_alloc_new _ _
  have HR : Hid (w0.rangeAt w.heap.size 4 PF) := by
    have hcf : PS = .int .i64 p.fr :: .int .i64 p.tu :: .bool p.ack :: .int .i64 p.sq :: PF := by rw [hPS, hPF]; rfl
    rw [hcf] at k1
    exact blk_rngQ k1 (fun j u hj => by rw [show 4 + j = j + 1 + 1 + 1 + 1 by omega]; simpa using hj)
  have KP : Hid (Calls Try.prog 8 #[.agg PF.toArray] w0 fun e w' => ∃ n : Nat, e = .returned (.int .i64 (n : Int)) ∧ n ≤ 5700000000000000 ∧ (n ≤ 262144 → n = fdN p.fd) ∧ Below w0.heap.size w0 w') := by
    rw [hPF]; exact fdsize_any (hp.bw bl)
  have KAL : Hid (∀ V2, Calls Try.prog 10 #[] V2 fun e w' => e = .returned (.bool true) ∧ Below V2.heap.size V2 w') := fun V2 => alive18_any V2
  have HIP : Hid ((Try.prog.info? 42).map (·.size) = some PF.length) := by rw [hPF]; exact infoFdS3
  have HIK : Hid ((Try.prog.info? 44).map (·.size) = some PS.toArray.size) := by rw [hPS, List.size_toArray]; exact infoPkS2
  have HW := hide hw0
  have HK1 := hide (And.intro bl k1)
  rw [← hPS]
  clear hp hPF hPS hw0 bl k1
  go_enter Try.func4, Try.ntmps4
  go_upto_region 1 with fail
  rw [← unhide HW]
  clear HW
  go_wp2_with (refine wpList_load_mid rfl 42 (.tmp 10) rfl w.heap.size 4 (by simp [Act.eval]) PF _ (unhide HR) Try.underlying42 rfl (unhide HIP) ?_)
  refine (unhide KP).mono ?_
  rintro e w1 ⟨n, rfl, hn, hm, b1⟩
  have HB1 := hide b1
  clear KP HR HIP hm b1
  go_wp2_with fail
  refine (beyond17a w1.heap.size n 1 _ (by omega) (blk_c (heap_alloc_new _ _) rfl)).mono ?_
  rintro e w2 ⟨rfl, rfl⟩
  generalize hV : World.alloc w1 _ = V
  have HV : Hid (Below w0.heap.size w0 V) := by rw [← hV]; exact bw_tr (unhide HB1) (bwA _ _)
  clear hV HB1
  by_cases hz : 262144 < n
  · rw [decide_eq_true hz]
    go_wp2_with fail
    go_ret
    exact ⟨rfl, bw_tr (unhide HK1).1 (unhide HV)⟩
  rw [decide_eq_false hz]
  clear hz hn
  go_wp2_with fail
  go_loopw [6] (fun iv wr => ∃ i : Nat, i ≤ 2 ∧ iv = .int .i64 (i : Int) ∧ Hid (Below w0.heap.size w0 wr)) (fun iv _ => (2 - intOf iv).toNat)
  case atStart => exact ⟨0, by omega, rfl, HV⟩
  case round =>
    clear HV
    obtain ⟨i, hi, rfl, HS⟩ := hrel
    by_cases hlt : i < 2
    · have hiI : (i : Int) < 2 := by omega
      rcases Nat.lt_or_ge i 1 with h0 | h0
      · obtain rfl : i = 0 := by omega
        have HN : Hid (NoNet wr (.pointer none)) := Or.inl rfl
        have KD := hide (neDeliver_no (unhide HN) at_)
        go_wp2_with fail
        refine (unhide KD).mono ?_
        rintro e w3 ⟨rfl, b3⟩
        have HN3 := hide ((unhide HN).bw b3)
        have HB3 : Hid (Below w0.heap.size w0 w3) := bw_tr (unhide HS) b3
        clear KD HN b3
        go_upto_region 11 with (refine wpList_store_row rfl 44 (.tmp 8) (.tmp 28) rfl w3.heap.size pt0 rfl rfl 44 pt0 (heap_alloc_new _ _) infoPk0 rfl pt0_one ?_)
        generalize hV : World.setRow _ _ _ = V4
        have HB34 : Hid (Below w3.heap.size w3 V4) := by rw [← hV]; exact below_setRow' (bwA _ _) (Nat.le_refl _) _
        have HN4 := hide ((unhide HN3).bw (unhide HB34))
        have HB4 : Hid (Below w0.heap.size w0 V4) := bw_tr (unhide HB3) (unhide HB34)
        have HRK : Hid (V4.heap[w.heap.size]? = some (.cells PS.toArray 44 (0, 0))) := kept_b (unhide HK1).2 (lt_of_blk (unhide HK1).2) (unhide HB4)
        have KS := hide (neSend_no (unhide HN4) PS.toArray)
        clear hV HB34 HN3 HB3
        go_wp2_with (refine wpList_load_rowG (by first | rfl | simp [Region.wanted, yielded]) 44 (.tmp 2) rfl w.heap.size rfl 44 PS.toArray (0, 0) _ (unhide HRK) Try.underlying44 rfl (unhide HIK) ?_)
        refine (unhide KS).mono ?_
        rintro e w5 ⟨rfl, b5⟩
        have HN5 := hide ((unhide HN4).bw b5)
        have HB5 : Hid (Below w0.heap.size w0 w5) := bw_tr (unhide HB4) b5
        have KO := hide (neDrop_no (unhide HN5) at_)
        have KC := hide (neCopy_no (unhide HN5) at_)
        have KL := hide (neLen_no (unhide HN5))
        have KA := hide (neAll_no (unhide HN5))
        clear KS b5 HN4 HB4 HRK
        go_wp2_with fail
        refine (unhide KO).mono ?_
        rintro e w6 ⟨rfl, rfl⟩
        clear KO
        go_wp2_with fail
        refine (unhide KC).mono ?_
        rintro e w6 ⟨rfl, rfl⟩
        clear KC
        go_wp2_with fail
        refine (unhide KL).mono ?_
        rintro e w6 ⟨rfl, rfl⟩
        clear KL
        go_wp2_with fail
        refine (unhide KA).mono ?_
        rintro e w6 ⟨rfl, rfl⟩
        clear KA
        go_wp2_with fail
        go_roundw
        case rel => exact ⟨1, by omega, by go_num, HB5⟩
        case measure => simp only [intOf]; omega
      · obtain rfl : i = 1 := by omega
        go_upto_region 10 with (refine wpList_buildTo (P := Try.prog) rfl 61 #[] rfl (some 22) rfl #[.bool false, .slice none 0 0] (by simp only [List.map_toArray, List.map_nil, List.toList_toArray]; exact built_net0) ?_)
        generalize hW : World.alloc wr _ = W2
        have HNB : Hid (W2.cell? ⟨wr.heap.size, 0, none⟩ = some (.bool false) ∧ Below wr.heap.size wr W2) := by
          rw [← hW]; exact ⟨blk_c (heap_alloc_new _ _) rfl, bwA _ _⟩
        have HSW : Hid (Below w0.heap.size w0 W2) := bw_tr (unhide HS) (unhide HNB).2
        clear hW HS
        have HN : Hid (NoNet W2 (.pointer (some ⟨wr.heap.size, 0, none⟩))) := Or.inr ⟨_, rfl, (unhide HNB).1⟩
        have KD := hide (neDeliver_no (unhide HN) at_)
        go_wp2_with fail
        refine (unhide KD).mono ?_
        rintro e w3 ⟨rfl, b3⟩
        have HN3 := hide ((unhide HN).bw b3)
        have HB3 : Hid (Below w0.heap.size w0 w3) := bw_tr (unhide HSW) b3
        clear KD HN b3
        go_upto_region 11 with (refine wpList_store_row rfl 44 (.tmp 8) (.tmp 28) rfl w3.heap.size pt0 rfl rfl 44 pt0 (heap_alloc_new _ _) infoPk0 rfl pt0_one ?_)
        generalize hV : World.setRow _ _ _ = V4
        have HB34 : Hid (Below w3.heap.size w3 V4) := by rw [← hV]; exact below_setRow' (bwA _ _) (Nat.le_refl _) _
        have HN4 := hide ((unhide HN3).bw (unhide HB34))
        have HB4 : Hid (Below w0.heap.size w0 V4) := bw_tr (unhide HB3) (unhide HB34)
        have HRK : Hid (V4.heap[w.heap.size]? = some (.cells PS.toArray 44 (0, 0))) := kept_b (unhide HK1).2 (lt_of_blk (unhide HK1).2) (unhide HB4)
        have KS := hide (neSend_no (unhide HN4) PS.toArray)
        clear hV HB34 HN3 HB3
        go_wp2_with (refine wpList_load_rowG (by first | rfl | simp [Region.wanted, yielded]) 44 (.tmp 2) rfl w.heap.size rfl 44 PS.toArray (0, 0) _ (unhide HRK) Try.underlying44 rfl (unhide HIK) ?_)
        refine (unhide KS).mono ?_
        rintro e w5 ⟨rfl, b5⟩
        have HN5 := hide ((unhide HN4).bw b5)
        have HB5 : Hid (Below w0.heap.size w0 w5) := bw_tr (unhide HB4) b5
        have KO := hide (neDrop_no (unhide HN5) at_)
        have KC := hide (neCopy_no (unhide HN5) at_)
        have KL := hide (neLen_no (unhide HN5))
        have KA := hide (neAll_no (unhide HN5))
        clear KS b5 HN4 HB4 HRK
        go_wp2_with fail
        refine (unhide KO).mono ?_
        rintro e w6 ⟨rfl, rfl⟩
        clear KO
        go_wp2_with fail
        refine (unhide KC).mono ?_
        rintro e w6 ⟨rfl, rfl⟩
        clear KC
        go_wp2_with fail
        refine (unhide KL).mono ?_
        rintro e w6 ⟨rfl, rfl⟩
        clear KL
        go_wp2_with fail
        refine (unhide KA).mono ?_
        rintro e w6 ⟨rfl, rfl⟩
        clear KA
        go_wp2_with fail
        go_roundw
        case rel => exact ⟨2, by omega, by go_num, HB5⟩
        case measure => simp only [intOf]; omega
    · obtain rfl : i = 2 := by omega
      go_wp2_with fail
      refine (unhide KAL _).mono ?_
      rintro e w9 ⟨rfl, b9⟩
      clear KAL
      go_wp2_with fail
      go_ret
      exact ⟨rfl, bw_tr (unhide HK1).1 (bw_tr (unhide HS) b9)⟩
end Go.Proofs.Ytndgdpefoidfbaa

/- NetNone: for every packet and every number the law answers true: a net that is not there, or that no call made, answers ErrNil, and has nothing. No condition (the law itself claims nothing of a packet of more than 262144 values). -/
namespace Go.Proofs.Ytndgdpefoidfbaa
open Go.ChangeShapes Go.WideShapes Go.ChangeAt Go.RowKit Go.Joins Go.Deep Go.Maps
set_option maxRecDepth 100000 in
theorem NetNone_lifted (os : Os) (started : os.Started) (H : Type) (enc : TypeId × Value → H) :
    ReturnsInHanded {} Try.checked os 4 .any (Rows.netNoneSpec.pre6 enc Try.prog Try.f4 Rows.netNoneRow.domain false) (Rows.netNoneSpec.post enc Try.prog Try.f4 false true false false) := by
  refine returnsInHanded_of_change_sized (C := Try.checked) own started (by kernel_rfl) Try.func4
    (ChangeSpec.witness6 (enc := enc) (C := Try.checked) false ⟨#[], #[.agg pt0, .int .i64 0], []⟩ 8 (by kernel_rfl) (by kernel_rfl) (by kernel_rfl) (by kernel_rfl)) ?_
  intro W base args ds gs before hval0 hW hcnd hsz0 _
  have hval : ∀ (j : Nat) t v, Try.f4.params[j]? = some t → args[j]? = some v → Value.okWide Try.prog W .any base t v := hval0
  have hsz : (DataW.weightsEach Try.prog (Try.f4.params.toList ++ Rows.netNoneSpec.plain.varTypes Try.prog) (ds ++ gs)).all (· ≤ reachBytes) = true := hsz0
  have hW' := hW
  obtain ⟨p, q, hA0, hV, rfl, hfz, hnd⟩ := hW
  have hA : DataW.TrodAll enc Try.prog W 0 (fun _ => true) true Try.f4.params.toList args.toList ds p := hA0
  rw [Try.params4] at hA hval hsz
  obtain ⟨v0, vs0, d0, ds0, p0, q0, hargs, rfl, rfl, h0, r0⟩ := trodAll_cons hA
  obtain ⟨v1, vs1, d1, ds1, p1, q1, rfl, rfl, rfl, h1, r1⟩ := trodAll_cons r0
  obtain ⟨rfl, rfl, rfl⟩ := trodAll_nil r1
  obtain rfl : args = #[v0, v1] := by cases args; simp_all
  obtain ⟨rfl, rfl⟩ := trodVars_none hV
  have k0 := h0
  have lt0 : ∀ x ∈ p0, x.block < W.heap.size := by obtain ⟨m, hm⟩ := k0; exact DataW.trod_lt m _ _ _ hm
  obtain ⟨cs0, rfl, hcz0⟩ := okWide_struct Try.underlying44 (hval 0 44 v0 rfl rfl)
  obtain ⟨fu0, hf0⟩ := h0
  obtain ⟨c0, x0, e0, t0, u0⟩ := open_ptT (cs := cs0.toList) (by simpa [Value.cells] using hf0) (fun n hn => by simpa using List.all_eq_true.1 hsz n (DataW.weights_mem_each (j := 0) (t := 44) rfl rfl n hn))
  obtain rfl : cs0 = (ptC c0 x0).toArray := by rw [← e0]
  obtain ⟨a1, rfl, rfl, rfl, w1⟩ := open_int Try.underlying3 (hval 1 3 v1 rfl rfl) h1
  clear hA0 hval0
  refine (none_any t0 a1).mono fun e W' ⟨he, bel⟩ => ?_
  subst he
  exact ⟨_, rfl, _, _, _, [], _, [], hW', trodAll_mk1 (shut_bool Try.underlying4 _), (trodAll_cons_mk (Below.trod laidOut (by kernel_rfl) (of_decide_eq_true (by kernel_rfl)) k0 bel lt0) (trodAll_cons_mk (shut_int Try.underlying3 w1) trodAll_mk0)), rfl, bel.frame _, fun h => by cases h⟩
theorem NetNone_over : Rows.netNoneRow.holds Try.pinned (OpenSpec.ofChange Rows.netNoneSpec) :=
  OpenClaim.holds_of_wide 4 Try.f4 rfl rfl rfl rfl rfl rfl rfl ⟨rfl, rfl, rfl, rfl, rfl⟩ rfl rfl rfl rfl rfl (by kernel_rfl) Try.func4 (by kernel_rfl)
    (of_decide_eq_true (by kernel_rfl)) (by unfold Func.isWrapper; first | (rw [if_pos (by decide +kernel)]; kernel_rfl) | (rw [if_neg (by decide +kernel)]; exact ⟨rfl, rfl⟩))
    (fun os started H enc _ => NetNone_lifted os started H enc)
theorem NetNone_holds : Rows.NetNoneSaid := NetNone_over
#print axioms NetNone_holds
end Go.Proofs.Ytndgdpefoidfbaa
