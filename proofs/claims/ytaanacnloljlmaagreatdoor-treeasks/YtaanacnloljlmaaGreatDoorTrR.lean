/- The contract of alive, the end of every law of layer 8. -/
import Derived.Test.YtaanacnloljlmaaGreatDoorZ10
namespace Go.Proofs.YtaanacnloljlmaaGreatDoor
open Go.RowKit Go.Maps

def aT1 : List Nd := addR [] 5 0 1
def aT2 : List Nd := addR aT1 6 0 2
def aT3 : List Nd := setT aT2 0 1 3 [4]
def aT4 : List Nd := addR aT3 7 0 5
def aT5 : List Nd := remR aT4 6
theorem lits8 : (addE [] 5 0 1 = 0 ∧ addE aT1 6 0 2 = 0 ∧ addA aT1 6 0 2 = 1 ∧ setE aT2 0 1 3 [4] = 0 ∧ addE aT3 7 0 5 = 0 ∧ addA aT3 7 0 5 = 2) ∧ (resE aT4 3 = 0 ∧ rsl aT4 3 = [1, 4] ∧ remE aT4 6 = 0 ∧ mems aT5 = [5, 7] ∧ mayB [nd0, nd0] = false) ∧ (mayB aT1 = true ∧ mayB aT2 = true ∧ mayB aT3 = true ∧ mayB aT4 = true ∧ mayB aT5 = true) := by decide +kernel
theorem OTr.trdM {B : Nat} {w : World} {v : Value} {T : List Nd} {us : List Value} (h : OTr B w v T us) (hm : mayB T = true) : Trd w v T :=
  h.trd (by have := (mayB_15 hm).1; omega) (fun n hn => by have := un_len hm n hn; omega)
theorem two_ownB (w : World) (a b : Int) : Ints 0 (w.alloc (.cells #[.int .i64 a, .int .i64 b] 3)) (.slice (some ⟨w.heap.size, 0, none⟩) 2 2) [a, b] :=
  ⟨rfl, Or.inr ⟨w.heap.size, 2, #[.int .i64 a, .int .i64 b], rfl, Nat.zero_le _, heap_alloc_new w _, Nat.le_refl _, by unfold maxLen; omega, rfl, rfl⟩⟩
set_option maxRecDepth 100000 in
set_option maxHeartbeats 8000000 in
theorem alive8 (w : World) (hT : Tab w) :
    Calls Tryz.prog 21 #[] w fun e w' => e = .returned (.bool true) ∧ Below w.heap.size w w' := by
  obtain ⟨⟨l1, l2, l3, l4, l5, l6⟩, ⟨l7, l8, l9, l10, l11⟩, ⟨m1, m2, m3, m4, m5⟩⟩ := lits8
  have HT : Hid (∀ W, Below w.heap.size w W → Tab W) := fun W hW => hT.bw hW
  have K1 := hide (new_any hT 5 0 1)
  rw [l1, show addR [] 5 0 1 = aT1 from rfl] at K1
  have KA : Hid (∀ W r, Below w.heap.size w W → Trd W r aT1 → Calls Tryz.prog 149 #[.agg #[r], .agg #[.int .i64 6, .int .i64 0, .int .i64 2]] W fun e w' => ∃ r us, e = .returned (.tuple #[.agg #[r], .int .i64 1, .int .i64 0]) ∧ OTr W.heap.size w' r aT2 us ∧ Below W.heap.size W w') := fun W r hW hr => by
    have := add_any hr (unhide HT _ hW) 6 0 2; rw [l2, l3] at this; exact this
  have KS : Hid (∀ W r pv, Below w.heap.size w W → Trd W r aT2 → Nums W pv [4] → Calls Tryz.prog 32 #[.agg #[r], .int .i64 0, .int .i64 1, .int .i64 3, pv] W fun e w' => ∃ r us, e = .returned (.tuple #[.agg #[r], .int .i64 0]) ∧ OTr W.heap.size w' r aT3 us ∧ Below W.heap.size W w') := fun W r pv hW hr hp => set_ok hr hp (unhide HT _ hW) 0 1 3 l4
  have KB : Hid (∀ W r, Below w.heap.size w W → Trd W r aT3 → Calls Tryz.prog 149 #[.agg #[r], .agg #[.int .i64 7, .int .i64 0, .int .i64 5]] W fun e w' => ∃ r us, e = .returned (.tuple #[.agg #[r], .int .i64 2, .int .i64 0]) ∧ OTr W.heap.size w' r aT4 us ∧ Below W.heap.size W w') := fun W r hW hr => by
    have := add_any hr (unhide HT _ hW) 7 0 5; rw [l5, l6] at this; exact this
  have KR : Hid (∀ W r, Below w.heap.size w W → Trd W r aT4 → Calls Tryz.prog 22 #[.agg #[r], .int .i64 3] W fun e w' => ∃ r, e = .returned (.tuple #[r, .int .i64 0]) ∧ Ints W.heap.size w' r [1, 4] ∧ Below W.heap.size W w') := fun W r hW hr => by
    have := resolutionX_any hr (unhide HT _ hW) 3; rw [l7, if_pos rfl, show (3 : Int).toNat = 3 from rfl, l8] at this; exact this
  have KM : Hid (∀ W r, Below w.heap.size w W → Trd W r aT4 → Calls Tryz.prog 150 #[.agg #[r], .int .i64 6] W fun e w' => ∃ r us, e = .returned (.tuple #[.agg #[r], .int .i64 0]) ∧ OTr W.heap.size w' r aT5 us ∧ Below W.heap.size W w') := fun W r hW hr => by
    have := rem_any hr (unhide HT _ hW) 6; rw [l9] at this; exact this
  have KE : Hid (∀ W r, Below w.heap.size w W → Trd W r aT5 → Calls Tryz.prog 12 #[.agg #[r]] W fun e w' => ∃ r, e = .returned r ∧ Ints W.heap.size w' r [5, 7] ∧ Below W.heap.size W w') := fun W r hW hr => by
    have := membersX_any hr (unhide HT _ hW); rw [m5, if_pos rfl, l10] at this; exact this
  have KC : Hid (∀ W r, Below w.heap.size w W → Trd W r [nd0, nd0] → Calls Tryz.prog 9 #[.agg #[r]] W fun e w' => e = .returned (.int .i64 1) ∧ Below W.heap.size W w') := fun W r hW hr => by
    have := check_any hr (unhide HT _ hW); rw [l11] at this; exact this
  have HMM := hide (And.intro m1 (And.intro m2 (And.intro m3 (And.intro m4 m5))))
  clear l1 l2 l3 l4 l5 l6 l7 l8 l9 l10 l11 m1 m2 m3 m4 m5 hT
  go_enter Tryz.func21, Tryz.ntmps21
  go_wp2_with fail
  refine (unhide K1).mono ?_
  rintro e W1 ⟨r1, us1, rfl, O1, b1⟩
  obtain ⟨a1, c1, rfl⟩ := own_slice O1.row
  generalize aT1.length = n1 at *
  have t1 := (O1.trdM (unhide HMM).1).bw (bwA W1 (.cells #[.slice a1 n1 c1] 24))
  have d1 : Below w.heap.size w (W1.alloc (.cells #[.slice a1 n1 c1] 24)) := b1.alloc b1.size _
  have K2 := hide (unhide KA _ _ d1 t1)
  have hs1 := b1.size
  clear K1 KA O1 t1 b1
  go_wp2_with fail
  refine (unhide K2).mono ?_
  rintro e W2 ⟨r2, us2, rfl, O2, b2⟩
  obtain ⟨a2, c2, rfl⟩ := own_slice O2.row
  generalize aT2.length = n2 at *
  have h2 := new1 b2
  have x2 : W2.cell? ⟨W1.heap.size, 0, none⟩ = some (.slice a1 n1 c1) := cell_of_blk (o := 0) h2 rfl
  have y2 : W2.frozen? ⟨W1.heap.size, 0, none⟩ = false := frozen_of_blk (o := 0) h2
  have d2 := bw_tr d1 b2
  have z2 : Hid (Trd (W2.setCell ⟨W1.heap.size, 0, none⟩ (.slice a2 n2 c2)) (.slice a2 n2 c2) aT2 ∧ Below w.heap.size w (W2.setCell ⟨W1.heap.size, 0, none⟩ (.slice a2 n2 c2)) ∧ (W2.setCell ⟨W1.heap.size, 0, none⟩ (.slice a2 n2 c2)).heap[W1.heap.size]? = some (.cells #[.slice a2 n2 c2] 24 (0, 0))) :=
    ⟨(O2.keepB (fun k hk => Below.heap_setCell _ _ _ _ (by simp at hk ⊢; omega))).trdM (unhide HMM).2.1, d2.setCell hs1 _, by simp [World.setCell, Array.getElem?_modify, h2]⟩
  have v2 : (W2.setCell ⟨W1.heap.size, 0, none⟩ (.slice a2 n2 c2)).cell? ⟨W1.heap.size, 0, none⟩ = some (.slice a2 n2 c2) := cell_set_same x2 _
  clear K2 O2 b2 d1 d2 h2
  go_upto_region 3 with fail
  generalize W2.setCell ⟨W1.heap.size, 0, none⟩ (.slice a2 n2 c2) = V2 at *
  clear x2 y2
  have t2 := ((unhide z2).1).bw (bwA V2 (.cells #[.int .i64 4] 3))
  have d2 : Below w.heap.size w (V2.alloc (.cells #[.int .i64 4] 3)) := (unhide z2).2.1.alloc (unhide z2).2.1.size _
  have k2 : (V2.alloc (.cells #[.int .i64 4] 3)).heap[W1.heap.size]? = some (.cells #[.slice a2 n2 c2] 24 (0, 0)) := kept1 (unhide z2).2.2 (bwA _ _)
  have K3 := hide (unhide KS _ _ _ d2 t2 (one_own V2 4).nums)
  clear KS t2 z2
  go_wp2_with fail
  refine (unhide K3).mono ?_
  rintro e W3 ⟨r3, us3, rfl, O3, b3⟩
  obtain ⟨a3, c3, rfl⟩ := own_slice O3.row
  generalize aT3.length = n3 at *
  have h3 := kept1 k2 b3
  have hl3 := lt_of_blk k2
  have x3 : W3.cell? ⟨W1.heap.size, 0, none⟩ = some (.slice a2 n2 c2) := cell_of_blk (o := 0) h3 rfl
  have y3 : W3.frozen? ⟨W1.heap.size, 0, none⟩ = false := frozen_of_blk (o := 0) h3
  have d3 := bw_tr d2 b3
  have z3 : Hid (Trd (W3.setCell ⟨W1.heap.size, 0, none⟩ (.slice a3 n3 c3)) (.slice a3 n3 c3) aT3 ∧ Below w.heap.size w (W3.setCell ⟨W1.heap.size, 0, none⟩ (.slice a3 n3 c3)) ∧ (W3.setCell ⟨W1.heap.size, 0, none⟩ (.slice a3 n3 c3)).heap[W1.heap.size]? = some (.cells #[.slice a3 n3 c3] 24 (0, 0))) :=
    ⟨(O3.keepB (fun k hk => Below.heap_setCell _ _ _ _ (by simp at hk hl3 ⊢; omega))).trdM (unhide HMM).2.2.1, d3.setCell hs1 _, by simp [World.setCell, Array.getElem?_modify, h3]⟩
  have v3 : (W3.setCell ⟨W1.heap.size, 0, none⟩ (.slice a3 n3 c3)).cell? ⟨W1.heap.size, 0, none⟩ = some (.slice a3 n3 c3) := cell_set_same x3 _
  clear K3 O3 b3 d2 d3 h3 hl3 k2 v2
  go_upto_region 4 with fail
  generalize W3.setCell ⟨W1.heap.size, 0, none⟩ (.slice a3 n3 c3) = V3 at *
  clear x3 y3
  have K4 := hide (unhide KB _ _ (unhide z3).2.1 (unhide z3).1)
  have k3 := (unhide z3).2.2
  have d3 := (unhide z3).2.1
  clear KB z3
  go_wp2_with fail
  refine (unhide K4).mono ?_
  rintro e W4 ⟨r4, us4, rfl, O4, b4⟩
  obtain ⟨a4, c4, rfl⟩ := own_slice O4.row
  generalize aT4.length = n4 at *
  have h4 := kept1 k3 b4
  have hl4 := lt_of_blk k3
  have x4 : W4.cell? ⟨W1.heap.size, 0, none⟩ = some (.slice a3 n3 c3) := cell_of_blk (o := 0) h4 rfl
  have y4 : W4.frozen? ⟨W1.heap.size, 0, none⟩ = false := frozen_of_blk (o := 0) h4
  have d4 := bw_tr d3 b4
  have z4 : Hid (Trd (W4.setCell ⟨W1.heap.size, 0, none⟩ (.slice a4 n4 c4)) (.slice a4 n4 c4) aT4 ∧ Below w.heap.size w (W4.setCell ⟨W1.heap.size, 0, none⟩ (.slice a4 n4 c4)) ∧ (W4.setCell ⟨W1.heap.size, 0, none⟩ (.slice a4 n4 c4)).heap[W1.heap.size]? = some (.cells #[.slice a4 n4 c4] 24 (0, 0))) :=
    ⟨(O4.keepB (fun k hk => Below.heap_setCell _ _ _ _ (by simp at hk hl4 ⊢; omega))).trdM (unhide HMM).2.2.2.1, d4.setCell hs1 _, by simp [World.setCell, Array.getElem?_modify, h4]⟩
  have v4 : (W4.setCell ⟨W1.heap.size, 0, none⟩ (.slice a4 n4 c4)).cell? ⟨W1.heap.size, 0, none⟩ = some (.slice a4 n4 c4) := cell_set_same x4 _
  clear K4 O4 b4 d3 d4 h4 hl4 k3 v3
  go_upto_region 5 with fail
  generalize W4.setCell ⟨W1.heap.size, 0, none⟩ (.slice a4 n4 c4) = V4 at *
  clear x4 y4
  have K5 := hide (unhide KR _ _ (unhide z4).2.1 (unhide z4).1)
  clear KR
  go_wp2_with fail
  refine (unhide K5).mono ?_
  rintro e W5 ⟨r5, rfl, h5, b5⟩
  have d5 := bw_tr (unhide z4).2.1 b5
  have v5 : W5.cell? ⟨W1.heap.size, 0, none⟩ = some (.slice a4 n4 c4) := cell_of_blk (kept1 (unhide z4).2.2 b5) rfl
  have K6 := hide (unhide KM _ _ d5 ((unhide z4).1.bw b5))
  clear K5 KM v4 z4 b5
  go_wp2_with fail
  refine (unhide K6).mono ?_
  rintro e W6 ⟨r6, us6, rfl, O6, b6⟩
  obtain ⟨a6, c6, rfl⟩ := own_slice O6.row
  generalize aT5.length = n6 at *
  have h6 := h5.bw (bw_tr b6 (bwA W6 (.cells #[.slice a6 n6 c6] 24)))
  have d6 : Below w.heap.size w (W6.alloc (.cells #[.slice a6 n6 c6] 24)) := (bw_tr d5 b6).alloc (bw_tr d5 b6).size _
  have t6 := (O6.trdM (unhide HMM).2.2.2.2).bw (bwA W6 (.cells #[.slice a6 n6 c6] 24))
  obtain ⟨V6, hV6⟩ : ∃ V6, V6 = W6.alloc (.cells #[.slice a6 n6 c6] 24) := ⟨_, rfl⟩
  have k6 : V6.heap[W6.heap.size]? = some (.cells #[.slice a6 n6 c6] 24 (0, 0)) := by rw [hV6]; exact heap_alloc_new _ _
  rw [← hV6] at h6 d6 t6
  have HV6 := hide hV6
  have K7 := hide (same_any _ _ _ _ _ ((h6.nums).bw (bwA V6 (.cells #[.int .i64 1, .int .i64 4] 3))) (two_ownB V6 1 4).nums)
  rw [show decide (([1, 4] : List Int) = [1, 4]) = true by decide] at K7
  have d7 : Below w.heap.size w (V6.alloc (.cells #[.int .i64 1, .int .i64 4] 3)) := d6.alloc d6.size _
  have k7 := kept1 k6 (bwA V6 (.cells #[.int .i64 1, .int .i64 4] 3))
  have t7 := t6.bw (bwA V6 (.cells #[.int .i64 1, .int .i64 4] 3))
  clear K6 O6 b6 h5 h6 d5 v5 hV6 d6 t6 k6
  go_upto_region 7 with fail
  rw [← unhide HV6]
  clear HV6
  go_wp2_with fail
  refine (unhide K7).mono ?_
  rintro e W7 ⟨rfl, b7⟩
  have d8 := bw_tr d7 b7
  have v8 : W7.cell? ⟨W6.heap.size, 0, none⟩ = some (.slice a6 n6 c6) := cell_of_blk (kept1 k7 b7) rfl
  have K8 := hide (unhide KE _ _ d8 (t7.bw b7))
  clear K7 KE d7 b7 k7 t7
  go_wp2_with fail
  refine (unhide K8).mono ?_
  rintro e W8 ⟨r8, rfl, h8, b8⟩
  have d9 := bw_tr d8 b8
  have K9 := hide (same_any _ _ _ _ _ ((h8.nums).bw (bwA W8 (.cells #[.int .i64 5, .int .i64 7] 3))) (two_ownB W8 5 7).nums)
  have d10 : Below w.heap.size w (W8.alloc (.cells #[.int .i64 5, .int .i64 7] 3)) := d9.alloc d9.size _
  have e57 : decide (([5, 7] : List Int) = [5, 7]) = true := by decide
  rw [e57] at K9
  clear K8 d8 b8 v8 h8 d9 e57
  go_wp2_with fail
  refine (unhide K9).mono ?_
  rintro e W9 ⟨rfl, b9⟩
  have d11 := bw_tr d10 b9
  clear K9 d10 b9
  obtain ⟨i0, hi0, hz0, hz1, hz2⟩ := info_parts infoNode
  obtain ⟨wm, hmk, hown, hgr⟩ := run_makeSlice_full (P := Tryz.prog) (w := W9) W9.heap.size 22 88 i0 (.agg #[.int .i64 0, .int .i64 0, .int .i64 0, .slice none 0 0]) 4 Tryz.underlying22 hi0 hz0 hz1 .i64 .i64 2 (by omega) (by rw [hz2]; omega) (by unfold maxLen; omega) (Nat.le_refl _)
  have hmk2 : (Instr.makeSlice 22 (.int .i64 2) (.int .i64 2)).run Tryz.prog W9 = .ok (.slice (some ⟨W9.heap.size, 0, none⟩) 2 2) wm := hmk
  have bm : Below W9.heap.size W9 wm := (Below.refl _ _).grown hgr (Nat.le_refl _) (fun k hk => by cases hk)
  rw [show (madeCells (Value.agg #[.int .i64 0, .int .i64 0, .int .i64 0, .slice none 0 0]).cells (2 * 4)).toList = treeC [nd0, nd0] [.slice none 0 0, .slice none 0 0] by kernel_rfl] at hown
  have hO : OTr W9.heap.size wm (.slice (some ⟨W9.heap.size, 0, none⟩) 2 2) [nd0, nd0] [.slice none 0 0, .slice none 0 0] := by
    refine ⟨rfl, hown, fun i n u h1 h2 => ?_, fun i j u u' k h1 h2 k1 => ?_⟩
    · have e1 : n.un = [] := by
        match i, h1 with
        | 0, h1 => cases h1; rfl
        | 1, h1 => cases h1; rfl
        | i + 2, h1 => simp at h1
      have e2 : u = .slice none 0 0 := by
        match i, h2 with
        | 0, h2 => cases h2; rfl
        | 1, h2 => cases h2; rfl
        | i + 2, h2 => simp at h2
      rw [e1, e2]; exact ints_nil _ _
    · exfalso
      have e2 : u = .slice none 0 0 := by
        match i, h1 with
        | 0, h2 => cases h2; rfl
        | 1, h2 => cases h2; rfl
        | i + 2, h2 => simp at h2
      rw [e2] at k1; cases k1
  have d12 := bw_tr d11 bm
  have K10 := hide (unhide KC _ _ d12 (hO.trd (by simp) (by simp [nd0])))
  clear hmk hown hgr hO KC bm d11 hi0 hz0 hz1 hz2
  go_wp2_with fail
  refine (unhide K10).mono ?_
  rintro e W10 ⟨rfl, b10⟩
  have d13 := bw_tr d12 b10
  clear K10 b10 d12 hmk2
  go_wp2_with fail
  go_ret
  exact ⟨rfl, d13⟩
end Go.Proofs.YtaanacnloljlmaaGreatDoor
