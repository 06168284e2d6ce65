/- NetFull: the walk. -/
import Derived.Test.YtndgdpefoidfbaaZ34
import Derived.Test.YtndgdpefoidfbaaZ30
import Derived.Test.YtndgdpefoidfbaaQuSm
import Derived.Laws.Bits128
namespace Go.Proofs.Ytndgdpefoidfbaa
open Go.RowKit Go.Maps
theorem i64_and4095 (n : Int) : bits .and .i64 n 4095 = n % 4096 := by
  have h63 : (BitVec.ofInt 64 4095).toNat = 2 ^ 12 - 1 := by decide
  have key : (BitVec.ofInt 64 n &&& BitVec.ofInt 64 4095).toNat = (n % ((2 ^ 64 : Nat) : Int)).toNat % 2 ^ 12 := by
    rw [BitVec.toNat_and, BitVec.toNat_ofInt, h63, Nat.and_two_pow_sub_one_eq_mod]
  show IntKind.i64.wrap ((BitVec.ofInt 64 n &&& BitVec.ofInt 64 4095).toNat : Nat) = n % 4096
  rw [key, IntKind.wrap_i64]
  omega
set_option maxRecDepth 100000 in
set_option maxHeartbeats 1000000 in
theorem full_any {w : World} {p : Pt} {y : Fx} (hp : FdR w p.fd y ∧ fdB p.fd) (at_ : Int) :
    Calls Try.prog 3 #[.agg (ptC p y).toArray, .int .i64 at_] w fun e w' => e = .returned (.bool true) ∧ Below w.heap.size w w' := by
  obtain ⟨PF, hPF⟩ : ∃ z, z = fdC p.fd y := ⟨_, rfl⟩
  obtain ⟨PS, hPS⟩ : ∃ z, z = (ptC p y).toArray := ⟨_, rfl⟩
  obtain ⟨w0, hw0⟩ : ∃ w0, w0 = w.alloc (.cells PS 44) := ⟨_, rfl⟩
  have bl : Below w.heap.size w w0 := by rw [hw0]; exact bwA _ _
  have k1 : w0.heap[w.heap.size]? = some (.cells PS 44 (0, 0)) := by rw [hw0]; exact heap_alloc_new _ _
  have HRNG : Hid (∀ W, Below w0.heap.size w0 W → W.rangeAt w.heap.size 4 PF) := fun W hW => by
    have k2 := kept_b k1 (lt_of_blk k1) hW
    have hcf : PS = (.int .i64 p.fr :: .int .i64 p.tu :: .bool p.ack :: .int .i64 p.sq :: PF).toArray := by rw [hPS, hPF]; rfl
    rw [hcf] at k2
    exact blk_rngQ k2 (fun j u hj => by rw [show 4 + j = j + 1 + 1 + 1 + 1 by omega]; simpa using hj)
  have HK1 : Hid (∀ W, Below w0.heap.size w0 W → W.heap[w.heap.size]? = some (.cells PS 44 (0, 0))) := fun W hW => kept_b k1 (lt_of_blk k1) hW
  have KP : Hid (∀ W, Below w0.heap.size w0 W → Calls Try.prog 8 #[.agg PF.toArray] W fun e w' => ∃ n : Nat, e = .returned (.int .i64 (n : Int)) ∧ n ≤ 5700000000000000 ∧ (n ≤ 262144 → n = fdN p.fd) ∧ Below W.heap.size W w') := fun W hW => by
    rw [hPF]; exact fdsize_any (hp.1.bw (bw_tr bl hW))
  obtain ⟨tk, htk⟩ := ex_bool (TakenP p)
  have KM : Hid (∀ W, Calls Try.prog 9 #[.agg PS] W fun e w' => e = .returned (.bool tk) ∧ Below W.heap.size W w') := fun W => by rw [hPS]; exact q17may_any p y htk
  have KAL : Hid (∀ V2, Calls Try.prog 10 #[] V2 fun e w' => e = .returned (.bool true) ∧ Below V2.heap.size V2 w') := fun V2 => alive18_any V2
  have KS : Hid (∀ W0 W gv P F, Below w0.heap.size w0 W → NetK W0.heap.size W0 W W0.heap.size gv P F → P.length < 4096 → TakenP p → SmF p.fd → Calls Try.prog 12 #[.pointer (some ⟨W0.heap.size, 0, none⟩), .agg PS] W fun e w' => e = .returned (.int .i64 0) ∧ ∃ gv' q, Hid (q.p = p ∧ NetK W0.heap.size W0 w' W0.heap.size gv' (P ++ [q]) F)) := fun W0 W gv P F hW h hl ht hs => by
    rw [hPS]; exact sendK_any h (hp.1.bw (bw_tr bl hW)) hs hl ht
  have KSF : Hid (∀ W0 W gv P F, Below w0.heap.size w0 W → NetK W0.heap.size W0 W W0.heap.size gv P F → P.length = 4096 → TakenP p → SmF p.fd → Calls Try.prog 12 #[.pointer (some ⟨W0.heap.size, 0, none⟩), .agg PS] W fun e w' => e = .returned (.int .i64 3) ∧ ∃ gv', Hid (NetK W0.heap.size W0 w' W0.heap.size gv' P F)) := fun W0 W gv P F hW h hl ht hs => by
    rw [hPS]; exact sendK_full h (hp.1.bw (bw_tr bl hW)) hs hl ht
  have KSP : Hid (∀ W y', Below w0.heap.size w0 W → FdR W p.fd y' → SmF p.fd → Calls Try.prog 16 #[.agg (ptC p y').toArray, .agg PS] W fun e w' => e = .returned (.bool true) ∧ Below W.heap.size W w') := fun W y' hW h hs => by
    rw [hPS]; exact samePt_any h (hp.1.bw (bw_tr bl hW)) hs
  have HSM : Hid (fdN p.fd ≤ 262144 → SmF p.fd) := fun q => smF_of hp (by omega)
  have HIP : Hid ((Try.prog.info? 42).map (·.size) = some PF.length) := by rw [hPF]; exact infoFdS3
  have HIK : Hid ((Try.prog.info? 44).map (·.size) = some PS.size) := by rw [hPS, List.size_toArray]; exact infoPkS2
  have HW := hide hw0
  have HBL := hide bl
  have HTK := hide htk
  rw [← hPS]
  clear hp hPF hPS hw0 bl k1 htk
  have kal : ∀ (V : World), Below w0.heap.size w0 V → Below w.heap.size w V := fun V hV => bw_tr (unhide HBL) hV
  have HAL := hide kal
  clear kal
  go_enter Try.func3, Try.ntmps3
  go_upto_region 1 with fail
  rw [← unhide HW]
  clear HW
  have HR0 := hide (unhide HRNG w0 (Below.refl _ _))
  go_wp2_with (refine wpList_load_midG (by first | rfl | simp [Region.wanted, yielded]) 42 (.tmp 9) rfl w.heap.size 4 (by simp [Act.eval]) PF _ (unhide HR0) Try.underlying42 rfl (unhide HIP) ?_)
  refine (unhide KP w0 (Below.refl _ _)).mono ?_
  rintro e w1 ⟨n, rfl, hn, hm, b1⟩
  have HB1 := hide b1
  have HM := hide hm
  clear HR0 hm b1
  go_wp2_with fail
  refine (beyond17a w1.heap.size n 1 _ (by omega) (blk_c (heap_alloc_new _ _) rfl)).mono ?_
  rintro e w2 ⟨rfl, rfl⟩
  generalize hV : World.alloc w1 _ = V
  have HV : Hid (Below w0.heap.size w0 V) := by rw [← hV]; exact bw_tr (unhide HB1) (bwA _ _)
  clear hV HB1
  by_cases hz : 262144 < n
  · rw [decide_eq_true hz]
    clear KS KSF KSP KP KM HRNG
    go_wp2_with fail
    refine (unhide KAL _).mono ?_
    rintro e w9 ⟨rfl, b9⟩
    clear KAL
    go_wp2_with fail
    go_ret
    exact ⟨rfl, unhide HAL _ (bw_tr (unhide HV) b9)⟩
  rw [decide_eq_false hz]
  have HN : Hid (fdN p.fd ≤ 262144) := by have := unhide HM (by omega); unfold Hid; omega
  have HR1 := hide (unhide HRNG V (unhide HV))
  have KP1 := hide (unhide KP V (unhide HV))
  clear hz hn HM KP HRNG
  go_wp2_with (refine wpList_load_midG (by first | rfl | simp [Region.wanted, yielded]) 42 (.tmp 15) rfl w.heap.size 4 (by simp [Act.eval]) PF _ (unhide HR1) Try.underlying42 rfl (unhide HIP) ?_)
  refine (unhide KP1).mono ?_
  rintro e w3 ⟨n3, rfl, hn3, _, b3⟩
  have HV3 := hide (bw_tr (unhide HV) b3)
  clear KP1 HR1 HIP b3 HV
  by_cases hz : 100 < n3
  · have hzI : (100 : Int) < (n3 : Int) := by omega
    clear KS KSF KSP KM
    go_wp2_with fail
    refine (unhide KAL _).mono ?_
    rintro e w9 ⟨rfl, b9⟩
    clear KAL
    go_wp2_with fail
    go_ret
    exact ⟨rfl, unhide HAL _ (bw_tr (unhide HV3) b9)⟩
  have hzI : (n3 : Int) ≤ 100 := by omega
  have HR3 := hide (unhide HK1 w3 (unhide HV3))
  clear hz hn3
  go_wp2_with (refine wpList_load_rowG (by first | rfl | (simp [Region.wanted, yielded]; omega)) 44 (.tmp 2) rfl w.heap.size rfl 44 PS (0, 0) _ (unhide HR3) Try.underlying44 rfl (unhide HIK) ?_)
  refine (unhide KM _).mono ?_
  rintro e w4 ⟨rfl, b4⟩
  have HV4 := hide (bw_tr (unhide HV3) b4)
  clear KM HR3 b4 HV3
  cases tk with
  | false =>
    clear KS KSF KSP
    go_wp2_with fail
    refine (unhide KAL _).mono ?_
    rintro e w9 ⟨rfl, b9⟩
    clear KAL
    go_wp2_with fail
    go_ret
    exact ⟨rfl, unhide HAL _ (bw_tr (unhide HV4) b9)⟩
  | true =>
  have HT : Hid (TakenP p ∧ SmF p.fd) := ⟨(unhide HTK).1 rfl, unhide HSM (unhide HN)⟩
  clear HTK HSM HN
  go_wp2_with fail
  refine (neNew_any w4).mono ?_
  rintro e w5 ⟨rfl, b5, hs5⟩
  have H5 := hide (NetK.start (hs5 _ (Nat.le_refl _)) b5)
  -- whatever the net does, what was there ahead of it stands
  have HIN : Hid (∀ V gv P F, NetK w4.heap.size w4 V w4.heap.size gv P F → Below w0.heap.size w0 V) := fun V gv P F h => bw_tr (unhide HV4) h.bel
  have KS5 := hide (unhide KS w4 w5 _ _ _ (unhide HIN _ _ _ _ (unhide H5)) (unhide H5) (by simp) (unhide HT).1 (unhide HT).2)
  have HR5 := hide (unhide HK1 w5 (unhide HIN _ _ _ _ (unhide H5)))
  clear hs5 b5
  go_wp2_with (refine wpList_load_rowG (by first | rfl | simp [Region.wanted, yielded]) 44 (.tmp 2) rfl w.heap.size rfl 44 PS (0, 0) _ (unhide HR5) Try.underlying44 rfl (unhide HIK) ?_)
  refine (unhide KS5).mono ?_
  rintro e w6 ⟨rfl, gv6, q6, H6⟩
  have HS0 : Hid (∃ gv P, NetK w4.heap.size w4 w6 w4.heap.size gv P [] ∧ P.length = 1 ∧ ∀ q ∈ P, q.p = p) := ⟨gv6, _, (unhide H6).2, rfl, fun q hq => by simp at hq; rw [hq]; exact (unhide H6).1⟩
  clear KS5 HR5 H6 H5
  go_wp2_with fail
  go_loopw [6] (fun iv wr => ∃ i : Nat, i ≤ 4096 ∧ 1 ≤ i ∧ iv = .int .i64 (i : Int) ∧ Hid (∃ gv P, NetK w4.heap.size w4 wr w4.heap.size gv P [] ∧ P.length = i ∧ ∀ q ∈ P, q.p = p)) (fun iv _ => (4096 - intOf iv).toNat)
  case atStart => exact ⟨1, by omega, Nat.le_refl _, rfl, HS0⟩
  case round =>
    clear HS0
    obtain ⟨i, hi, hi1, rfl, HS⟩ := hrel
    obtain ⟨gv, P, h, hlen, hall⟩ := unhide HS
    have HA := hide hall
    have H := hide h
    have HLN := hide hlen
    by_cases hlt : i < 4096
    · have hiI : (i : Int) < 4096 := by omega
      have KC := hide (copyK_any h 0 (by omega) (by omega))
      clear HS h hall hlen
      go_wp2_with fail
      refine (unhide KC).mono ?_
      rintro e w7 ⟨rfl, gv7, q7, H7⟩
      have HX : Hid (∃ gv P, NetK w4.heap.size w4 w7 w4.heap.size gv P [] ∧ P.length = i + 1 ∧ ∀ q ∈ P, q.p = p) := by
        refine ⟨gv7, _, (unhide H7).2, by rw [List.length_append, unhide HLN]; rfl, fun q hq => ?_⟩
        rcases List.mem_append.1 hq with c | c
        · exact unhide HA q c
        · simp at c; rw [c]; exact unhide HA q7 (List.mem_of_getElem? (unhide H7).1)
      clear KC H7 HA H HLN
      go_wp2_with fail
      go_roundw
      case rel => exact ⟨i + 1, by omega, by omega, by go_num, HX⟩
      case measure => simp only [intOf]; omega
    · obtain rfl : i = 4096 := by omega
      have KC := hide (copyK_full h 0 (by omega) hlen)
      clear HS h hall hlen
      go_wp2_with fail
      refine (unhide KC).mono ?_
      rintro e w7 ⟨rfl, gv7, H7⟩
      have KS7 := hide (unhide KSF w4 w7 _ _ _ (unhide HIN _ _ _ _ (unhide H7)) (unhide H7) (unhide HLN) (unhide HT).1 (unhide HT).2)
      have HR7 := hide (unhide HK1 w7 (unhide HIN _ _ _ _ (unhide H7)))
      clear KC H
      go_wp2_with (refine wpList_load_rowG (by first | rfl | simp [Region.wanted, yielded]) 44 (.tmp 2) rfl w.heap.size rfl 44 PS (0, 0) _ (unhide HR7) Try.underlying44 rfl (unhide HIK) ?_)
      refine (unhide KS7).mono ?_
      rintro e w8 ⟨rfl, gv8, H8⟩
      have KL8 : Hid (Calls Try.prog 14 #[.pointer (some ⟨w4.heap.size, 0, none⟩)] w8 fun e w' => e = .returned (.int .i64 4096) ∧ w' = w8) := by
        have := lenK_any (unhide H8); rw [unhide HLN] at this; exact this
      clear KS7 HR7 H7
      go_wp2_with fail
      refine (unhide KL8).mono ?_
      rintro e w9 ⟨rfl, rfl⟩
      obtain ⟨k, hk, hb⟩ : ∃ k : Nat, k < 4096 ∧ bits .and .i64 at_ 4095 = (k : Int) := ⟨(at_ % 4096).toNat, by omega, by rw [i64_and4095]; omega⟩
      have KD := hide (delK_any (unhide H8) k (by rw [unhide HLN]; exact hk) (by rw [unhide HLN]; exact Nat.le_refl _))
      have HKK := hide hk
      clear KL8
      go_wp2_with fail
      refine (unhide KD).mono ?_
      rintro e w10 ⟨q10, y10, gv10, rfl, H10⟩
      have hq : q10.p = p := unhide HA q10 (List.mem_of_getElem? (unhide H10).1)
      obtain ⟨H10a, H10b, H10c⟩ : Hid (NetK w4.heap.size w4 w10 w4.heap.size gv10 (P.eraseIdx k) []) ∧ Hid (FdR w10 p.fd y10) ∧ Hid ((P.eraseIdx k).length = 4095) := by
        obtain ⟨_, a2, a3, a4⟩ := unhide H10
        refine ⟨a2, ?_, ?_⟩
        · rw [← hq]; exact OF.rd a3 a4
        · have hl := unhide HLN
          show (P.eraseIdx k).length = 4095
          rw [List.length_eraseIdx_of_lt (by rw [hl]; exact hk), hl]
      rw [hq]
      obtain ⟨CQ, hCQ⟩ : ∃ z, z = (ptC p y10).toArray := ⟨_, rfl⟩
      have HCQ : Hid ((Try.prog.info? 44).map (·.size) = some CQ.size ∧ pt0.size = CQ.size ∧ CQ.all (·.oneCell') = true) := by
        rw [hCQ]
        exact ⟨by rw [List.size_toArray]; exact infoPkS2, by rw [List.size_toArray]; rfl, all_oneCell_toArray (pt_one (unhide H10b))⟩
      rw [← hCQ]
      have HCE := hide hCQ
      clear KD H10 H8 HA HLN hq hCQ hb hk
      go_upto_region 14 with (refine wpList_store_row rfl 44 (.tmp 7) (.tmp 61) rfl w10.heap.size CQ rfl rfl 44 pt0 (heap_alloc_new _ _) (unhide HCQ).1 (unhide HCQ).2.1 (unhide HCQ).2.2 ?_)
      generalize hV : World.setRow _ _ _ = V11
      have HV11 : Hid (Below w10.heap.size w10 V11 ∧ V11.heap[w10.heap.size]? = some (.cells CQ 44 (0, 0))) := by
        rw [← hV]
        exact ⟨below_setRow' (bwA _ _) (Nat.le_refl _) _, setRow_heap _ _ _ _ _ _ (heap_alloc_new w10 (.cells pt0 44))⟩
      have H11 := hide ((unhide H10a).bw (unhide HV11).1)
      have HB11 := hide (unhide HIN _ _ _ _ (unhide H11))
      have HR11 := hide (unhide HK1 V11 (unhide HB11))
      have KSP11 : Hid (Calls Try.prog 16 #[.agg CQ, .agg PS] V11 fun e w' => e = .returned (.bool true) ∧ Below V11.heap.size V11 w') := by
        rw [unhide HCE]; exact unhide KSP V11 y10 (unhide HB11) ((unhide H10b).bw (unhide HV11).1) (unhide HT).2
      clear hV H10a H10b
      go_wp2_with (first
        | refine wpList_load_rowG (by first | rfl | simp [Region.wanted, yielded]) 44 (.tmp 7) rfl w10.heap.size rfl 44 CQ (0, 0) _ (unhide HV11).2 Try.underlying44 rfl (unhide HCQ).1 ?_
        | refine wpList_load_rowG (by first | rfl | simp [Region.wanted, yielded]) 44 (.tmp 2) rfl w.heap.size rfl 44 PS (0, 0) _ (unhide HR11) Try.underlying44 rfl (unhide HIK) ?_)
      refine (unhide KSP11).mono ?_
      rintro e w12 ⟨rfl, b12⟩
      have H12 := hide ((unhide H11).bw b12)
      have KL12 : Hid (Calls Try.prog 14 #[.pointer (some ⟨w4.heap.size, 0, none⟩)] w12 fun e w' => e = .returned (.int .i64 4095) ∧ w' = w12) := by
        have := lenK_any (unhide H12); rw [unhide H10c] at this; exact this
      clear KSP11 HR11 HB11 H11 HV11 b12 HCE HCQ
      go_wp2_with fail
      refine (unhide KL12).mono ?_
      rintro e w13 ⟨rfl, rfl⟩
      have HB12 := hide (unhide HIN _ _ _ _ (unhide H12))
      have HR12 := hide (unhide HK1 w13 (unhide HB12))
      have KS12 := hide (unhide KS w4 w13 _ _ _ (unhide HB12) (unhide H12) (by rw [unhide H10c]; decide) (unhide HT).1 (unhide HT).2)
      clear KL12
      go_wp2_with (refine wpList_load_rowG (by first | rfl | simp [Region.wanted, yielded]) 44 (.tmp 2) rfl w.heap.size rfl 44 PS (0, 0) _ (unhide HR12) Try.underlying44 rfl (unhide HIK) ?_)
      refine (unhide KS12).mono ?_
      rintro e w14 ⟨rfl, gv14, q14, H14⟩
      have HB14 := hide (unhide HIN _ _ _ _ (unhide H14).2)
      clear KS12 HR12 H12 H14
      go_wp2_with fail
      refine (unhide KAL _).mono ?_
      rintro e w15 ⟨rfl, b15⟩
      clear KAL
      go_wp2_with fail
      go_ret
      exact ⟨rfl, unhide HAL _ (bw_tr (unhide HB14) b15)⟩
end Go.Proofs.Ytndgdpefoidfbaa
