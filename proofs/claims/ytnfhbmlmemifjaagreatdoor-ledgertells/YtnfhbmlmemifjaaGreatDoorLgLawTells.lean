/- LedgerTells, the walk. mkLgTells.py writes it. -/
import Derived.Test.YtnfhbmlmemifjaaGreatDoorBgH
import Derived.Test.YtnfhbmlmemifjaaGreatDoorLgRg
import Derived.Test.YtnfhbmlmemifjaaGreatDoorLgTp
import Derived.Test.YtnfhbmlmemifjaaGreatDoorZ32
import Derived.Test.YtnfhbmlmemifjaaGreatDoorZ25
namespace Go.Proofs.YtnfhbmlmemifjaaGreatDoor
open Go.RowKit Go.Maps
theorem getL_some {l : List Lg} {g e : Int} : (getL l g e).isSome = decide (0 ≤ e ∧ e < (lenL l g : Int)) := by
  by_cases h : 0 ≤ e
  · rw [getL_cms l g h]
    by_cases q : e < (lenL l g : Int)
    · rw [List.getElem?_eq_getElem (by rw [cmsL_len]; omega), decide_eq_true ⟨h, q⟩]; rfl
    · rw [List.getElem?_eq_none (by rw [cmsL_len]; omega), decide_eq_false (by omega)]; rfl
  · rw [getL_neg l g (by omega), decide_eq_false (by omega)]; rfl
theorem getL_sm {l : List Lg} (hs : SmL l) (hB : ∀ p ∈ l, LgB p) (g e : Int) : SmC ((getL l g e).getD cm00) ∧ CmB ((getL l g e).getD cm00) ∧ ((getL l g e).getD cm00).next.length ≤ 15 := by
  have z : SmC cm00 ∧ CmB cm00 ∧ cm00.next.length ≤ 15 := ⟨⟨by decide, by decide, by decide, by decide, by decide, by simp [cm00], by simp [cm00], by simp [cm00], by simp [cm00]⟩, ⟨by decide, by decide, by decide, by decide, by decide, by simp [cm00]⟩, by decide⟩
  by_cases h : 0 ≤ e
  · rw [getL_cms l g h]
    cases hc : (cmsL l g)[e.toNat]? with
    | none => exact z
    | some c =>
      have hm := List.mem_of_getElem? hc
      refine ⟨(cmsL_sm hs g).c c hm, ?_, (mayB_15 (cmsL_may hc).2.2.2.1).1⟩
      unfold cmsL at hc
      split at hc
      · cases hf : fndL l g with
        | none => rw [hf] at hc; simp at hc
        | some cs =>
          rw [hf] at hc
          exact (hB _ (fndL_mem hf)).2 c (List.mem_of_getElem? hc)
      · simp at hc
  · rw [getL_neg l g (by omega)]; exact z
theorem cmC_one {w : World} {c : Cm} {x : Cv} (h : CmR w c x) : ∀ u ∈ cmC c x, u.oneCell' = true := by
  intro v hv
  obtain ⟨a1, k1, e1⟩ := h.adds.slice
  obtain ⟨a2, k2, e2⟩ := nums_slice h.rem
  obtain ⟨a3, k3, e3⟩ := h.seals.slice
  obtain ⟨a4, k4, e4⟩ := h.joins.slice
  obtain ⟨a5, k5, e5⟩ := h.next.slice
  simp only [cmC, e1, e2, e3, e4, e5, List.mem_cons, List.not_mem_nil, or_false] at hv
  rcases hv with rfl | rfl | rfl | rfl | rfl | rfl | rfl | rfl | rfl | rfl | rfl | rfl | rfl | rfl | rfl <;> rfl
set_option maxRecDepth 100000 in
set_option maxHeartbeats 16000000 in
theorem LedgerTells_walk (W : World) (v : Value) (l : List Lg) (h : Lgs W v l) (hT : Tab W) (g e : Int) (hhi : e ≤ 9223372036854775807) :
    Calls Tryz.prog 3 #[v, .int .i64 g, .int .i64 e] W fun r w' => r = .returned (.bool true) ∧ Below W.heap.size W w' := by
  have KZ := hide (lsize_any h)
  have HL : Hid (∀ w, Below W.heap.size W w → Lgs w v l ∧ Tab w) := fun w hw => ⟨h.bw hw, hT.bw hw⟩
  have HSm : Hid (l.length + lsN l ≤ 262144 → SmL l ∧ (∀ p ∈ l, LgB p) ∧ l.length ≤ 262144) := fun q => ⟨smL_of h (by omega), lgB_of q, by omega⟩
  obtain ⟨c1, hc1⟩ : ∃ c, c = (getL l g e).getD cm00 := ⟨_, rfl⟩
  obtain ⟨c2, hc2⟩ : ∃ c, c = (getL l g ((lenL l g : Int) - 1)).getD cm00 := ⟨_, rfl⟩
  obtain ⟨o1, ho1⟩ : ∃ c, c = (getL l g e).isSome := ⟨_, rfl⟩
  obtain ⟨o2, ho2⟩ : ∃ c, c = (getL l g ((lenL l g : Int) - 1)).isSome := ⟨_, rfl⟩
  obtain ⟨TT, hTT⟩ : ∃ c, c = tchL l g e := ⟨_, rfl⟩
  have HTL : Hid (TT.length ≤ 16) := by
    unfold Hid
    rw [hTT]
    cases hg : getL l g e with
    | none => rw [tchL_none hg]; simp
    | some c =>
      have h0 := (tchL_some hg).1
      rw [getL_cms l g h0] at hg
      have := tchL_len hg
      rw [show ((e.toNat : Nat) : Int) = e by omega] at this
      exact this
  have HCS : Hid (∀ hs : SmL l, (∀ p ∈ l, LgB p) → (SmC c1 ∧ CmB c1 ∧ c1.next.length ≤ 15) ∧ (SmC c2 ∧ CmB c2 ∧ c2.next.length ≤ 15)) := fun hs hB => ⟨by rw [hc1]; exact getL_sm hs hB g e, by rw [hc2]; exact getL_sm hs hB g _⟩
  have KP1 : Hid (∀ w i, SmL l → Lgs w i l → Tab w → Calls Tryz.prog 8 #[i, .int .i64 g, .int .i64 e] w fun r w' => ∃ x us, r = .returned (.tuple #[cmV c1 x, .bool o1]) ∧ OC w.heap.size w' c1 x us ∧ Below w.heap.size w w') := fun w i hs hl hT => by rw [hc1, ho1]; exact lgGet_any hl hs hT g e
  have KP2 : Hid (∀ w i, SmL l → Lgs w i l → Tab w → Calls Tryz.prog 9 #[i, .int .i64 g] w fun r w' => ∃ x us, r = .returned (.tuple #[cmV c2 x, .bool o2]) ∧ OC w.heap.size w' c2 x us ∧ Below w.heap.size w w') := fun w i hs hl hT => by rw [hc2, ho2]; exact lgLast_any hl hs hT g
  have KP3 : Hid (∀ w i, SmL l → Lgs w i l → Tab w → Calls Tryz.prog 10 #[i, .int .i64 g, .int .i64 e] w fun r w' => ∃ v', r = .returned (.tuple #[v', .bool o1]) ∧ Ints w.heap.size w' v' TT ∧ Below w.heap.size w w') := fun w i hs hl hT => by rw [ho1, getL_some, hTT]; exact lgTouchedO_any hl hs hT g e
  have KR1 : Hid (∀ w, Lgs w v l → Calls Tryz.prog 11 #[v, .int .i64 g, .int .i64 e] w fun r w' => ∃ x, r = .returned (.tuple #[cmV c1 x, .bool o1]) ∧ CmR w c1 x ∧ Below w.heap.size w w') := fun w hl => by rw [hc1, ho1]; exact rget_any hl g e
  have KR2 : Hid (∀ w, Lgs w v l → Calls Tryz.prog 12 #[v, .int .i64 g] w fun r w' => ∃ x, r = .returned (.tuple #[cmV c2 x, .bool o2]) ∧ CmR w c2 x ∧ Below w.heap.size w w') := fun w hl => by rw [hc2, ho2]; exact rlast_any hl g
  have KR3 : Hid (∀ w, Lgs w v l → Calls Tryz.prog 13 #[v, .int .i64 g, .int .i64 e] w fun r w' => ∃ v', r = .returned (.tuple #[v', .bool o1]) ∧ Ints w.heap.size w' v' TT ∧ Below w.heap.size w w') := fun w hl => by rw [ho1, hTT]; exact rtouched_any hl g e hhi
  obtain ⟨ck, hck⟩ : ∃ c : Int, c = if chkB l = true then 0 else 1 := ⟨_, rfl⟩
  obtain ⟨ln, hln⟩ : ∃ c : Int, c = (lenL l g : Nat) := ⟨_, rfl⟩
  have KC1 : Hid (∀ w i, Lgs w i l → Tab w → Calls Tryz.prog 14 #[i] w fun e w' => e = .returned (.int .i64 ck) ∧ Below w.heap.size w w') := fun w i hl hT => by rw [hck]; exact lgCheck_any hl hT
  have KC2 : Hid (∀ w, Lgs w v l → Calls Tryz.prog 15 #[v] w fun e w' => e = .returned (.int .i64 ck) ∧ Below w.heap.size w w') := fun w hl => by rw [hck]; exact rchk_any hl
  have KN1 : Hid (∀ w i, SmL l → Lgs w i l → Tab w → Calls Tryz.prog 16 #[i, .int .i64 g] w fun e w' => e = .returned (.int .i64 ln) ∧ Below w.heap.size w w') := fun w i hs hl hT => by rw [hln]; exact lgLen_any hl hs hT g
  have KN2 : Hid (∀ w, Lgs w v l → Calls Tryz.prog 17 #[v, .int .i64 g] w fun e w' => e = .returned (.int .i64 ln) ∧ Below w.heap.size w w') := fun w hl => by rw [hln]; exact rlen_any hl g
  obtain ⟨a, cap, hv⟩ := h.slice
  obtain ⟨NL, hNL⟩ : ∃ z, z = l.length := ⟨_, rfl⟩
  rw [← hNL] at hv
  subst hv
  have HNL := hide hNL
  clear h hT hc1 hc2 ho1 ho2 hTT hck hln hhi hNL
  go_enter Tryz.func3, Tryz.ntmps3
  go_wp2_with fail
  refine (unhide KZ).mono ?_
  rintro r w1 ⟨n, rfl, hn, hnl, b1⟩
  have hk := heap_alloc_new w1 (.cells #[.int .i64 (n : Int)] 3)
  have KB := hide (beyond14 w1.heap.size n 1 (w1.alloc (.cells #[.int .i64 (n : Int)] 3)) hn (blk_c hk rfl))
  have B1 := hide (And.intro hnl (bw_tr b1 (bwA w1 (.cells #[.int .i64 (n : Int)] 3))))
  clear hk hnl b1 KZ
  go_wp2_with fail
  refine (unhide KB).mono ?_
  rintro r w2 ⟨rfl, hw2⟩
  have B2 : Hid (Below W.heap.size W w2) := by unfold Hid; rw [hw2]; exact (unhide B1).2
  have HN2 := hide (unhide B1).1
  clear hw2 B1 KB
  by_cases hbig : 262144 < n
  · rw [decide_eq_true hbig]
    go_wp2_with fail
    go_ret
    exact ⟨rfl, unhide B2⟩
  · rw [decide_eq_false hbig]
    have hsz : l.length + lsN l ≤ 262144 := by have := unhide HN2 (by omega); omega
    have HS := hide (And.intro (unhide HSm hsz) hsz)
    have HC := hide (unhide HCS (unhide HS).1.1 (unhide HS).1.2.1)
    have K1 := hide (twinlogs_any w2 _ l (unhide HL w2 (unhide B2)).1 (unhide HS).1.2.2 (unhide HS).1.2.1)
    rw [← unhide HNL] at K1
    clear HSm HCS HN2 hbig hn hsz
    go_wp2_with fail
    refine (unhide K1).mono ?_
    rintro r w3 ⟨ps, rfl, hpl, htw, b3⟩
    have HTw : Hid (TwLs w2.heap.size w3 w2.heap.size l ps) := TwG.fin (by rw [unhide HNL] at htw; exact htw) (by rw [hpl, unhide HNL])
    have HOw : Hid (OwL kLg w2.heap.size w3 (.slice (some ⟨w2.heap.size, 0, none⟩) NL (NL + 2)) l (List.zipWith lqX l ps)) := by rw [unhide HNL]; exact (unhide HTw).own (unhide HS).1.2.2 (fun p hp => ⟨(unhide HS).1.1.g p hp, (unhide HS).1.2.1 p hp⟩)
    have B3 := hide (bw_tr (unhide B2) b3)
    have HIn : Hid (∀ w, Below w3.heap.size w3 w → Lgs w (.slice (some ⟨w2.heap.size, 0, none⟩) NL (NL + 2)) l ∧ Tab w) := fun w hw => ⟨((unhide HOw).lgs (unhide HS).1.1).bw hw, (unhide HL w (bw_tr (unhide B3) hw)).2⟩
    have K2 := hide (unhide KP1 w3 _ (unhide HS).1.1 (unhide HIn w3 (Below.refl _ _)).1 (unhide HIn w3 (Below.refl _ _)).2)
    clear hpl htw b3 K1 KP1
    go_wp2_with fail
    refine (unhide K2).mono ?_
    rintro r w4 ⟨x1, us1, rfl, q1, b4⟩
    have one_1 := cmC_one (q1.rd (unhide HC).1.1)
    have HO1 := hide q1
    have B4 := hide b4
    clear q1 b4 K2
    obtain ⟨CL1, hCL1⟩ : ∃ C, C = cmC c1 x1 := ⟨_, rfl⟩
    rw [show cmV c1 x1 = .agg CL1.toArray by rw [hCL1]; rfl]
    obtain ⟨X1, hX1⟩ : ∃ Z, Z = (w4.alloc (.cells #[.int .i64 0, .int .i64 0, .int .i64 0, .int .i64 0, .int .i64 0, .bool false, .slice none 0 0, .slice none 0 0, .slice none 0 0, .slice none 0 0, .int .i64 0, .int .i64 0, .slice none 0 0, .int .i64 0, .int .i64 0] 34)).setCells w4.heap.size 0 CL1.toArray.toList := ⟨_, rfl⟩
    have HZ1 : Hid (CL1.length = 15 ∧ CL1.toArray.all (·.oneCell') = true) := ⟨by rw [hCL1]; rfl, by rw [hCL1, List.all_toArray]; simpa using one_1⟩
    have HK1 : Hid (X1.heap[w4.heap.size]? = some (.cells CL1.toArray 34 (0, 0))) := by rw [hX1]; exact blk_new _ _ _ _ (by rw [(unhide HZ1).1]; rfl)
    have hbX1 : Below w4.heap.size w4 X1 := by rw [hX1]; exact bw_new _ _ _ _
    have BX1 := hide (bw_tr (unhide B4) hbX1)
    have HbX1 := hide hbX1
    have HX1 := hide hX1
    have HCL1 := hide hCL1
    clear one_1 hX1 hbX1 hCL1
    have K3 := hide (unhide KP2 X1 _ (unhide HS).1.1 (unhide HIn X1 (unhide BX1)).1 (unhide HIn X1 (unhide BX1)).2)
    clear KP2
    go_upto_region 5 with (refine wpList_store_mid rfl 34 (.tmp 8) (.tmp 32) rfl w4.heap.size 0 CL1.toArray (by first | rfl | simp [Act.eval]) (by first | rfl | simp [Act.eval]) (there_new _ _ _ (by rw [List.size_toArray, (unhide HZ1).1]; rfl)) (by rw [List.size_toArray, (unhide HZ1).1]; exact bgsizeCommit) (unhide HZ1).2 ?_)
    rw [← unhide HX1]
    clear HX1
    go_wp2_with fail
    refine (unhide K3).mono ?_
    rintro r w6 ⟨x2, us2, rfl, q2, b6⟩
    have one_2 := cmC_one (q2.rd (unhide HC).2.1)
    have HO2 := hide q2
    have B6 := hide (bw_tr (unhide BX1) b6)
    have B6' := hide b6
    clear q2 b6 K3
    obtain ⟨CL2, hCL2⟩ : ∃ C, C = cmC c2 x2 := ⟨_, rfl⟩
    rw [show cmV c2 x2 = .agg CL2.toArray by rw [hCL2]; rfl]
    obtain ⟨X2, hX2⟩ : ∃ Z, Z = (w6.alloc (.cells #[.int .i64 0, .int .i64 0, .int .i64 0, .int .i64 0, .int .i64 0, .bool false, .slice none 0 0, .slice none 0 0, .slice none 0 0, .slice none 0 0, .int .i64 0, .int .i64 0, .slice none 0 0, .int .i64 0, .int .i64 0] 34)).setCells w6.heap.size 0 CL2.toArray.toList := ⟨_, rfl⟩
    have HZ2 : Hid (CL2.length = 15 ∧ CL2.toArray.all (·.oneCell') = true) := ⟨by rw [hCL2]; rfl, by rw [hCL2, List.all_toArray]; simpa using one_2⟩
    have HK2 : Hid (X2.heap[w6.heap.size]? = some (.cells CL2.toArray 34 (0, 0))) := by rw [hX2]; exact blk_new _ _ _ _ (by rw [(unhide HZ2).1]; rfl)
    have hbX2 : Below w6.heap.size w6 X2 := by rw [hX2]; exact bw_new _ _ _ _
    have BX2 := hide (bw_tr (unhide B6) hbX2)
    have HbX2 := hide hbX2
    have HX2 := hide hX2
    have HCL2 := hide hCL2
    clear one_2 hX2 hbX2 hCL2
    have K4 := hide (unhide KP3 X2 _ (unhide HS).1.1 (unhide HIn X2 (unhide BX2)).1 (unhide HIn X2 (unhide BX2)).2)
    clear KP3
    go_upto_region 6 with (refine wpList_store_mid rfl 34 (.tmp 10) (.tmp 38) rfl w6.heap.size 0 CL2.toArray (by first | rfl | simp [Act.eval]) (by first | rfl | simp [Act.eval]) (there_new _ _ _ (by rw [List.size_toArray, (unhide HZ2).1]; rfl)) (by rw [List.size_toArray, (unhide HZ2).1]; exact bgsizeCommit) (unhide HZ2).2 ?_)
    rw [← unhide HX2]
    clear HX2
    go_wp2_with fail
    refine (unhide K4).mono ?_
    rintro r w8 ⟨xv, rfl, q3, b8⟩
    have HO3 := hide q3
    have B8 := hide (bw_tr (unhide BX2) b8)
    have B8' := hide b8
    have K5 := hide (unhide KR1 w8 (unhide HL w8 (bw_tr (unhide B3) (unhide B8))).1)
    clear q3 b8 K4 KR1
    go_wp2_with fail
    refine (unhide K5).mono ?_
    rintro r w10 ⟨x3, rfl, q3, b10⟩
    have one_3 := cmC_one q3
    have HO4 := hide q3
    have B10 := hide (bw_tr (unhide B8) b10)
    have B10' := hide b10
    clear q3 b10 K5
    obtain ⟨CL3, hCL3⟩ : ∃ C, C = cmC c1 x3 := ⟨_, rfl⟩
    rw [show cmV c1 x3 = .agg CL3.toArray by rw [hCL3]; rfl]
    obtain ⟨X3, hX3⟩ : ∃ Z, Z = (w10.alloc (.cells #[.int .i64 0, .int .i64 0, .int .i64 0, .int .i64 0, .int .i64 0, .bool false, .slice none 0 0, .slice none 0 0, .slice none 0 0, .slice none 0 0, .int .i64 0, .int .i64 0, .slice none 0 0, .int .i64 0, .int .i64 0] 34)).setCells w10.heap.size 0 CL3.toArray.toList := ⟨_, rfl⟩
    have HZ3 : Hid (CL3.length = 15 ∧ CL3.toArray.all (·.oneCell') = true) := ⟨by rw [hCL3]; rfl, by rw [hCL3, List.all_toArray]; simpa using one_3⟩
    have HK3 : Hid (X3.heap[w10.heap.size]? = some (.cells CL3.toArray 34 (0, 0))) := by rw [hX3]; exact blk_new _ _ _ _ (by rw [(unhide HZ3).1]; rfl)
    have hbX3 : Below w10.heap.size w10 X3 := by rw [hX3]; exact bw_new _ _ _ _
    have BX3 := hide (bw_tr (unhide B10) hbX3)
    have HbX3 := hide hbX3
    have HX3 := hide hX3
    have HCL3 := hide hCL3
    clear one_3 hX3 hbX3 hCL3
    have K6 := hide (unhide KR2 X3 (unhide HL X3 (bw_tr (unhide B3) (unhide BX3))).1)
    clear KR2
    go_upto_region 8 with (refine wpList_store_mid rfl 34 (.tmp 14) (.tmp 52) rfl w10.heap.size 0 CL3.toArray (by first | rfl | simp [Act.eval]) (by first | rfl | simp [Act.eval]) (there_new _ _ _ (by rw [List.size_toArray, (unhide HZ3).1]; rfl)) (by rw [List.size_toArray, (unhide HZ3).1]; exact bgsizeCommit) (unhide HZ3).2 ?_)
    rw [← unhide HX3]
    clear HX3
    go_wp2_with fail
    refine (unhide K6).mono ?_
    rintro r w12 ⟨x4, rfl, q4, b12⟩
    have one_4 := cmC_one q4
    have HO5 := hide q4
    have B12 := hide (bw_tr (unhide BX3) b12)
    have B12' := hide b12
    clear q4 b12 K6
    obtain ⟨CL4, hCL4⟩ : ∃ C, C = cmC c2 x4 := ⟨_, rfl⟩
    rw [show cmV c2 x4 = .agg CL4.toArray by rw [hCL4]; rfl]
    obtain ⟨X4, hX4⟩ : ∃ Z, Z = (w12.alloc (.cells #[.int .i64 0, .int .i64 0, .int .i64 0, .int .i64 0, .int .i64 0, .bool false, .slice none 0 0, .slice none 0 0, .slice none 0 0, .slice none 0 0, .int .i64 0, .int .i64 0, .slice none 0 0, .int .i64 0, .int .i64 0] 34)).setCells w12.heap.size 0 CL4.toArray.toList := ⟨_, rfl⟩
    have HZ4 : Hid (CL4.length = 15 ∧ CL4.toArray.all (·.oneCell') = true) := ⟨by rw [hCL4]; rfl, by rw [hCL4, List.all_toArray]; simpa using one_4⟩
    have HK4 : Hid (X4.heap[w12.heap.size]? = some (.cells CL4.toArray 34 (0, 0))) := by rw [hX4]; exact blk_new _ _ _ _ (by rw [(unhide HZ4).1]; rfl)
    have hbX4 : Below w12.heap.size w12 X4 := by rw [hX4]; exact bw_new _ _ _ _
    have BX4 := hide (bw_tr (unhide B12) hbX4)
    have HbX4 := hide hbX4
    have HX4 := hide hX4
    have HCL4 := hide hCL4
    clear one_4 hX4 hbX4 hCL4
    have K7 := hide (unhide KR3 X4 (unhide HL X4 (bw_tr (unhide B3) (unhide BX4))).1)
    clear KR3
    go_upto_region 9 with (refine wpList_store_mid rfl 34 (.tmp 16) (.tmp 58) rfl w12.heap.size 0 CL4.toArray (by first | rfl | simp [Act.eval]) (by first | rfl | simp [Act.eval]) (there_new _ _ _ (by rw [List.size_toArray, (unhide HZ4).1]; rfl)) (by rw [List.size_toArray, (unhide HZ4).1]; exact bgsizeCommit) (unhide HZ4).2 ?_)
    rw [← unhide HX4]
    clear HX4
    go_wp2_with fail
    refine (unhide K7).mono ?_
    rintro r w14 ⟨yv, rfl, q5, b14⟩
    have HO6 := hide q5
    have B14 := hide (bw_tr (unhide BX4) b14)
    have B14' := hide b14
    have b8_14 : Below w8.heap.size w8 w14 := bw_tr (unhide B10') (bw_tr (unhide HbX3) (bw_tr (unhide B12') (bw_tr (unhide HbX4) b14)))
    have bX2_14 : Below X2.heap.size X2 w14 := bw_tr (unhide B8') b8_14
    have bX1_14 : Below X1.heap.size X1 w14 := bw_tr (unhide B6') (bw_tr (unhide HbX2) bX2_14)
    have bX3_14 : Below X3.heap.size X3 w14 := bw_tr (unhide B12') (bw_tr (unhide HbX4) b14)
    have HQ : Hid (∀ w, Below w14.heap.size w14 w → w.heap[w4.heap.size]? = some (.cells CL1.toArray 34 (0, 0)) ∧ w.heap[w6.heap.size]? = some (.cells CL2.toArray 34 (0, 0)) ∧ w.heap[w10.heap.size]? = some (.cells CL3.toArray 34 (0, 0)) ∧ w.heap[w12.heap.size]? = some (.cells CL4.toArray 34 (0, 0))) := fun w hw =>
      ⟨kept_b (unhide HK1) (lt_of_blk (unhide HK1)) (bw_tr bX1_14 hw), kept_b (unhide HK2) (lt_of_blk (unhide HK2)) (bw_tr bX2_14 hw), kept_b (unhide HK3) (lt_of_blk (unhide HK3)) (bw_tr bX3_14 hw), kept_b (unhide HK4) (lt_of_blk (unhide HK4)) (bw_tr b14 hw)⟩
    have HP : Hid (OC w3.heap.size w14 c1 x1 us1 ∧ OC X1.heap.size w14 c2 x2 us2 ∧ Ints X2.heap.size w14 xv TT) := ⟨(unhide HO1).bw (bw_tr (unhide HbX1) bX1_14), (unhide HO2).bw (bw_tr (unhide HbX2) bX2_14), ints_keep (unhide HO3) b8_14⟩
    have HR : Hid (CmR w14 c1 x3 ∧ CmR w14 c2 x4) := ⟨(unhide HO4).bw b8_14, (unhide HO5).bw bX3_14⟩
    have HSZ : Hid (w4.heap.size ≤ X1.heap.size ∧ w6.heap.size ≤ X2.heap.size ∧ w3.heap.size ≤ w4.heap.size ∧ X1.heap.size ≤ w6.heap.size ∧ W.heap.size ≤ w2.heap.size ∧ w2.heap.size ≤ w3.heap.size) := ⟨(unhide HbX1).size, (unhide HbX2).size, (unhide B4).size, (unhide B6').size, (unhide B2).size, (unhide HTw).low |> fun _ => by have := lt_of_blk (unhide HTw).blk; omega⟩
    have HU : Hid ((∀ k ∈ cvZ x1 us1, k < w4.heap.size) ∧ (∀ k ∈ cvZ x2 us2, k < w6.heap.size) ∧ (∀ k ∈ zK kLg (.slice (some ⟨w2.heap.size, 0, none⟩) NL (NL + 2)) (List.zipWith lqX l ps), k < w3.heap.size)) := ⟨fun k hk => ((unhide HO1).lt k hk).2, fun k hk => ((unhide HO2).lt k hk).2, fun k hk => ((unhide HOw).lt k hk).2⟩
    clear q5 b14 b8_14 bX2_14 bX1_14 bX3_14 K7 HO1 HO2 HO3 HO4 HO5 B4 B6 B6' B8 B8' B10 B10' B12 B12' B14' BX1 BX2 BX3 BX4 HbX1 HbX2 HbX3 HbX4 HK1 HK2 HK3 HK4
    have K8 := hide (unhide KC1 w14 _ (unhide HIn w14 (unhide B14)).1 (unhide HIn w14 (unhide B14)).2)
    clear KC1
    go_wp2_with fail
    refine (unhide K8).mono ?_
    rintro r y1 ⟨rfl, b_⟩
    have By1 := hide (bw_tr (Below.refl w14.heap.size w14) b_)
    clear b_ K8
    have K9 := hide (unhide KC2 y1 (unhide HL y1 (bw_tr (unhide B3) (bw_tr (unhide B14) (unhide By1)))).1)
    clear KC2
    go_wp2_with fail
    refine (unhide K9).mono ?_
    rintro r y2 ⟨rfl, b_⟩
    have By2 := hide (bw_tr (unhide By1) b_)
    clear b_ K9
    have KA := hide (unhide KN1 y2 _ (unhide HS).1.1 (unhide HIn y2 (bw_tr (unhide B14) (unhide By2))).1 (unhide HIn y2 (bw_tr (unhide B14) (unhide By2))).2)
    clear KN1 By1
    go_wp2_with fail
    refine (unhide KA).mono ?_
    rintro r y3 ⟨rfl, b_⟩
    have By3 := hide (bw_tr (unhide By2) b_)
    clear b_ KA
    have KE := hide (unhide KN2 y3 (unhide HL y3 (bw_tr (unhide B3) (bw_tr (unhide B14) (unhide By3)))).1)
    clear KN2 By2
    go_wp2_with fail
    refine (unhide KE).mono ?_
    rintro r y4 ⟨rfl, b_⟩
    have By4 := hide (bw_tr (unhide By3) b_)
    clear b_ KE
    obtain ⟨q1, q2, q3, q4⟩ := unhide HQ y4 (unhide By4)
    have KF : Hid (Calls Tryz.prog 18 #[.agg CL1.toArray, .agg CL3.toArray] y4 fun e w' => e = .returned (.bool true) ∧ Below y4.heap.size y4 w') := by rw [unhide HCL1, unhide HCL3]; exact samecm_any (((unhide HP).1.bw (unhide By4)).rd (unhide HC).1.1) ((unhide HR).1.bw (unhide By4))
    clear By3
    go_wp2_with (first | (refine bg_loadG (by first | rfl | simp [Region.wanted, yielded]) 34 (.tmp 8) rfl w4.heap.size 0 (by first | rfl | simp [Act.eval]) CL1 _ (rng_blk q1) Tryz.underlying34 rfl (by rw [(unhide HZ1).1]; exact bgsizeCommit) ?_) | (refine bg_loadG (by first | rfl | simp [Region.wanted, yielded]) 34 (.tmp 14) rfl w10.heap.size 0 (by first | rfl | simp [Act.eval]) CL3 _ (rng_blk q3) Tryz.underlying34 rfl (by rw [(unhide HZ3).1]; exact bgsizeCommit) ?_) | (refine bg_loadG (by first | rfl | simp [Region.wanted, yielded]) 34 (.tmp 10) rfl w6.heap.size 0 (by first | rfl | simp [Act.eval]) CL2 _ (rng_blk q2) Tryz.underlying34 rfl (by rw [(unhide HZ2).1]; exact bgsizeCommit) ?_) | (refine bg_loadG (by first | rfl | simp [Region.wanted, yielded]) 34 (.tmp 16) rfl w12.heap.size 0 (by first | rfl | simp [Act.eval]) CL4 _ (rng_blk q4) Tryz.underlying34 rfl (by rw [(unhide HZ4).1]; exact bgsizeCommit) ?_))
    refine (unhide KF).mono ?_
    rintro r y5 ⟨rfl, b_⟩
    have By5 := hide (bw_tr (unhide By4) b_)
    clear b_ KF q1 q2 q3 q4
    obtain ⟨q1, q2, q3, q4⟩ := unhide HQ y5 (unhide By5)
    have KF : Hid (Calls Tryz.prog 18 #[.agg CL2.toArray, .agg CL4.toArray] y5 fun e w' => e = .returned (.bool true) ∧ Below y5.heap.size y5 w') := by rw [unhide HCL2, unhide HCL4]; exact samecm_any (((unhide HP).2.1.bw (unhide By5)).rd (unhide HC).2.1) ((unhide HR).2.bw (unhide By5))
    clear By4
    go_wp2_with (first | (refine bg_loadG (by first | rfl | simp [Region.wanted, yielded]) 34 (.tmp 8) rfl w4.heap.size 0 (by first | rfl | simp [Act.eval]) CL1 _ (rng_blk q1) Tryz.underlying34 rfl (by rw [(unhide HZ1).1]; exact bgsizeCommit) ?_) | (refine bg_loadG (by first | rfl | simp [Region.wanted, yielded]) 34 (.tmp 14) rfl w10.heap.size 0 (by first | rfl | simp [Act.eval]) CL3 _ (rng_blk q3) Tryz.underlying34 rfl (by rw [(unhide HZ3).1]; exact bgsizeCommit) ?_) | (refine bg_loadG (by first | rfl | simp [Region.wanted, yielded]) 34 (.tmp 10) rfl w6.heap.size 0 (by first | rfl | simp [Act.eval]) CL2 _ (rng_blk q2) Tryz.underlying34 rfl (by rw [(unhide HZ2).1]; exact bgsizeCommit) ?_) | (refine bg_loadG (by first | rfl | simp [Region.wanted, yielded]) 34 (.tmp 16) rfl w12.heap.size 0 (by first | rfl | simp [Act.eval]) CL4 _ (rng_blk q4) Tryz.underlying34 rfl (by rw [(unhide HZ4).1]; exact bgsizeCommit) ?_))
    refine (unhide KF).mono ?_
    rintro r y6 ⟨rfl, b_⟩
    have By6 := hide (bw_tr (unhide By5) b_)
    clear b_ KF q1 q2 q3 q4 By5
    have KF : Hid (Calls Tryz.prog 19 #[xv, yv] y6 fun e w' => e = .returned (.bool true) ∧ Below y6.heap.size y6 w') := by
      have := same_any xv yv TT TT y6 (ints_keep (unhide HP).2.2 (unhide By6)).nums (ints_keep (unhide HO6) (unhide By6)).nums
      rw [decide_eq_true rfl] at this
      exact this
    go_wp2_with fail
    refine (unhide KF).mono ?_
    rintro r y7 ⟨rfl, b_⟩
    have By7 := hide (bw_tr (unhide By6) b_)
    clear b_ KF
    have KF := hide (leftlogs_any y7 w2.heap.size w2.heap.size _ l ps ((unhide HTw).bw (bw_tr (unhide B14) (unhide By7))) (unhide HL y7 (bw_tr (unhide B3) (bw_tr (unhide B14) (unhide By7)))).1 (unhide HS).1.2.2 (unhide HS).1.2.1)
    rw [← unhide HNL] at KF
    clear By6
    go_wp2_with fail
    refine (unhide KF).mono ?_
    rintro r y8 ⟨rfl, b_⟩
    have By8 := hide (bw_tr (unhide By7) b_)
    clear b_ KF
    clear By7
    have B9 := hide (bw_tr (unhide B3) (bw_tr (unhide B14) (unhide By8)))
    go_wp2_with fail
    refine wp_build 81 #[] rfl (by kernel_rfl) ?_
    have hbuilt : (Tryz.prog.built 81 []).getD #[] = bookF 0 (fun _ => .slice none 0 0) := by kernel_rfl
    have hzero : ∀ w, (zeroValue 81).run Tryz.prog w = .ok (.agg (bookF 0 (fun _ => .slice none 0 0))) w := fun w => by kernel_rfl
    have hall : (bookF 0 (fun _ => .slice none 0 0)).all (·.oneCell') = true := by kernel_rfl
    have hsz62 : (Tryz.prog.info? 81).map (·.size) = some (bookF 0 (fun _ => .slice none 0 0)).size := by kernel_rfl
    simp only [List.map_toArray, List.map_nil, hbuilt]
    generalize hBF : bookF 0 (fun _ => .slice none 0 0) = BF at hbuilt hzero hall hsz62 ⊢
    go_upto_region 13 with (refine wpList_store_row rfl 81 (.tmp 20) (.tmp 120) rfl y8.heap.size BF rfl rfl 81 BF (heap_alloc_new _ _) hsz62 rfl hall ?_)
    obtain ⟨V, hV⟩ : ∃ V, V = (y8.alloc (.cells BF 81)).setRow y8.heap.size BF := ⟨_, rfl⟩
    have hblk : V.heap[y8.heap.size]? = some (.cells BF 81 (0, 0)) := by rw [hV]; exact setRow_newB y8 _ _ _
    have hVb : Below y8.heap.size y8 V := by rw [hV]; exact setRow_belowB y8 _ _ _
    rw [← hV]
    rw [← hBF] at hblk
    have ByV : Hid (Below w14.heap.size w14 V) := bw_tr (unhide By8) hVb
    have BV : Hid (Below W.heap.size W V) := bw_tr (unhide B9) hVb
    obtain ⟨b, hb⟩ : ∃ b, b = y8.heap.size := ⟨_, rfl⟩
    rw [← hb] at hblk ⊢
    have hbB : W.heap.size ≤ b := by rw [hb]; exact (unhide B9).size
    have HV0 : Hid (OwL kLg w2.heap.size V (.slice (some ⟨w2.heap.size, 0, none⟩) NL (NL + 2)) l (List.zipWith lqX l ps)) := (unhide HOw).bw (bw_tr (unhide B14) (unhide ByV))
    obtain ⟨s1, s2, s3, s4, s5, s6⟩ := unhide HSZ
    have KB1 := hide ((BK.start (S := ksLg) hblk hbB w2.heap.size).logs (H' := w3.heap.size) (by decide) s5 (unhide BV).size s6 (unhide HV0) (unhide HU).2.2 (unhide HS).1.2.1 (unhide HS).2)
    have HBB := hide hbB
    clear hV hblk hVb hBF hb hbB hbuilt hzero hall hsz62 s1 s2 s3 s4 s5 s6 By8 B9 HV0
    go_wp2_with fail
    refine (unhide KB1).mono ?_
    rintro r z1 ⟨rfl, ⟨n1, hn1, hk1⟩, t1⟩
    have HK1 := hide (And.intro hn1 hk1)
    have HT1 := hide t1
    have ob1 : Hid (OC w3.heap.size z1 c1 x1 us1 ∧ OC X1.heap.size z1 c2 x2 us2 ∧ Ints X2.heap.size z1 xv TT) := ⟨((unhide HP).1.bw (unhide ByV)).tf (smB_of (unhide HC).1.2.1) t1, ((unhide HP).2.1.bw (unhide ByV)).tf (smB_of (unhide HC).2.2.1) t1, t1.own (ints_keep (unhide HP).2.2 (unhide ByV)) (by decide)⟩
    have q1 := rng_tf (unhide HQ V (unhide ByV)).1 t1 (by decide)
    have HQ2 := hide (rng_tf (unhide HQ V (unhide ByV)).2.1 t1 (by decide))
    have hz1 : W.heap.size ≤ z1.heap.size := Nat.le_trans (unhide BV).size t1.size
    have KB2 : Hid (Calls Tryz.prog 22 #[.pointer (some ⟨b, 0, none⟩), .agg CL1.toArray] z1 fun e w' => e = .returned (.tuple #[]) ∧ (∃ n', n' ≤ n1 + (c1.next.length + 5) ∧ BK ksLg W.heap.size w' b n' X1.heap.size []) ∧ Tf ksLg.ts W.heap.size z1 w') := by
      obtain ⟨s1, s2, s3, s4, s5, s6⟩ := unhide HSZ
      rw [unhide HCL1]
      exact hk1.commit (by have := (unhide HC).1.2.2; omega) (by omega) hz1 (by omega) (unhide ob1).1 (fun k hk => by have := (unhide HU).1 k hk; omega) (smB_of (unhide HC).1.2.1)
    have HZ9 := hide hz1
    clear hn1 hk1 t1 hz1 KB1
    go_wp2_with (refine wpList_load_mid rfl 34 (.tmp 8) rfl w4.heap.size 0 (by first | rfl | simp [Act.eval]) CL1 _ (rng_blk q1) Tryz.underlying34 rfl (by rw [(unhide HZ1).1]; exact bgsizeCommit) ?_)
    refine (unhide KB2).mono ?_
    rintro r z2 ⟨rfl, ⟨n2, hn2, hk2⟩, t2⟩
    clear q1
    have q2 := rng_tf (unhide HQ2) t2 (by decide)
    have ob2 : Hid (OC X1.heap.size z2 c2 x2 us2 ∧ Ints X2.heap.size z2 xv TT) := ⟨(unhide ob1).2.1.tf (smB_of (unhide HC).2.2.1) t2, t2.own (unhide ob1).2.2 (by decide)⟩
    have hz2 : W.heap.size ≤ z2.heap.size := Nat.le_trans (unhide HZ9) t2.size
    have hn2' : n2 ≤ 655361 + 20 := by have := (unhide HC).1.2.2; have := (unhide HK1).1; omega
    have KB3 : Hid (Calls Tryz.prog 22 #[.pointer (some ⟨b, 0, none⟩), .agg CL2.toArray] z2 fun e w' => e = .returned (.tuple #[]) ∧ (∃ n', n' ≤ n2 + (c2.next.length + 5) ∧ BK ksLg W.heap.size w' b n' X2.heap.size []) ∧ Tf ksLg.ts W.heap.size z2 w') := by
      obtain ⟨s1, s2, s3, s4, s5, s6⟩ := unhide HSZ
      rw [unhide HCL2]
      exact hk2.commit (by have := (unhide HC).2.2.2; omega) (by omega) hz2 (by omega) (unhide ob2).1 (fun k hk => by have := (unhide HU).2.1 k hk; omega) (smB_of (unhide HC).2.2.1)
    have HT2 := hide ((unhide HT1).trans t2)
    have HZ9 := hide hz2
    have HN2 := hide hn2'
    clear hn2 hk2 t2 hz2 KB2 hn2' HT1
    go_wp2_with (refine wpList_load_mid rfl 34 (.tmp 10) rfl w6.heap.size 0 (by first | rfl | simp [Act.eval]) CL2 _ (rng_blk q2) Tryz.underlying34 rfl (by rw [(unhide HZ2).1]; exact bgsizeCommit) ?_)
    refine (unhide KB3).mono ?_
    rintro r z3 ⟨rfl, ⟨n3, hn3, hk3⟩, t3⟩
    clear q2
    have hz3 : W.heap.size ≤ z3.heap.size := Nat.le_trans (unhide HZ9) t3.size
    have hn3' : n3 ≤ 655361 + 40 := by have := (unhide HC).2.2.2; have := unhide HN2; omega
    have HT3 := hide ((unhide HT2).trans t3)
    have KB4 : Hid (Calls Tryz.prog 23 #[.pointer (some ⟨b, 0, none⟩), xv] z3 fun e w' => e = .returned (.tuple #[]) ∧ (∃ d, BK ksLg W.heap.size w' b (n3 + 1) X2.heap.size d) ∧ Tf ksLg.ts W.heap.size z3 w') := by
      obtain ⟨s1, s2, s3, s4, s5, s6⟩ := unhide HSZ
      exact hk3.numbers (by omega) (by omega) hz3 (t3.own (unhide ob2).2 (by decide)) (Nat.le_trans (unhide HTL) (by decide))
    have HZ9 := hide hz3
    have HN3 := hide hn3'
    clear hn3 hk3 t3 hz3 KB3 hn3' HT2
    go_wp2_with fail
    refine (unhide KB4).mono ?_
    rintro r z4 ⟨rfl, ⟨d4, hk4⟩, t4⟩
    have hz4 : W.heap.size ≤ z4.heap.size := Nat.le_trans (unhide HZ9) t4.size
    have KB5 := hide (apartLg_b W.heap.size b (n3 + 1) X2.heap.size d4 z4 hk4 hz4 (by have := unhide HN3; omega))
    have BZ : Hid (Below W.heap.size W z4) := (unhide BV).trans ((unhide HT3).trans t4).bel
    clear hk4 t4 hz4 KB4
    go_wp2_with fail
    refine (unhide KB5).mono ?_
    rintro r z5 ⟨rfl, b_⟩
    have BZ5 := hide ((unhide BZ).trans b_)
    have KAL := hide (alive14_any (unhide HL z5 (unhide BZ5)).2)
    clear b_ KB5
    go_wp2_with fail
    refine (unhide KAL).mono ?_
    rintro r z6 ⟨rfl, b_⟩
    have BZ6 := hide (bw_tr (unhide BZ5) b_)
    clear b_ KAL
    go_wp2_with fail
    go_ret
    exact ⟨rfl, unhide BZ6⟩
end Go.Proofs.YtnfhbmlmemifjaaGreatDoor
