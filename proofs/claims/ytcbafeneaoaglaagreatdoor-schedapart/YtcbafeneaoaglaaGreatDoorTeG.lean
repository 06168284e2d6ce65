/- The contracts of the document's Add, whatever comes of it, and of New. -/
import Derived.Test.YtcbafeneaoaglaaGreatDoorTeF
import Derived.Test.YtcbafeneaoaglaaGreatDoorZ10
namespace Go.Proofs.YtcbafeneaoaglaaGreatDoor
open Go.RowKit Go.Maps

set_option maxRecDepth 100000 in
set_option maxHeartbeats 4000000 in
theorem radd_err {w : World} {v : Value} {T : List Nd} (h : Trd w v T) (mm ee pp : Int) (hE : addE T mm ee pp ≠ 0) :
    Calls Tryz.prog 74 #[.agg #[v], .agg #[.int .i64 mm, .int .i64 ee, .int .i64 pp]] w fun e w' => e = .returned (.tuple #[.agg #[.slice none 0 0], .int .i64 0, .int .i64 (addE T mm ee pp)]) ∧ Below w.heap.size w w' := by
  obtain ⟨W0, hW0⟩ : ∃ W0, W0 = ((bxw w v).alloc (.cells #[.int .i64 mm, .int .i64 ee, .int .i64 pp] 94)).alloc (.cells #[.slice none 0 0] 25) := ⟨_, rfl⟩
  have hb0 : Below w.heap.size w W0 := by rw [hW0]; exact ((bwA _ _).alloc (by simp) _).alloc (by simp; omega) _
  have hs0 : W0.heap.size = w.heap.size + 3 := by rw [hW0]; simp
  have HB : Hid (∀ W, Below W0.heap.size W0 W → W.cell? ⟨w.heap.size, 0, none⟩ = some v ∧ (W.cell? ⟨w.heap.size + 1, 0, none⟩ = some (.int .i64 mm) ∧ W.cell? ⟨w.heap.size + 1, 1, none⟩ = some (.int .i64 ee) ∧ W.cell? ⟨w.heap.size + 1, 2, none⟩ = some (.int .i64 pp)) ∧ (W.cell? ⟨w.heap.size + 1 + 1, 0, none⟩ = some (.slice none 0 0) ∧ W.frozen? ⟨w.heap.size + 1 + 1, 0, none⟩ = false ∧ (W.setCell ⟨w.heap.size + 1 + 1, 0, none⟩ (.slice none 0 0)).cell? ⟨w.heap.size + 1 + 1, 0, none⟩ = some (.slice none 0 0)) ∧ Below w.heap.size w W) := fun W hW => by
    have e0 : W.heap[w.heap.size]? = some (.cells #[v] 25 (0, 0)) := by
      rw [hW.block _ (by omega), hW0, Below.heap_alloc _ _ _ (by simp; omega), Below.heap_alloc _ _ _ (by simp)]; exact heap_alloc_new _ _
    have e1 : W.heap[w.heap.size + 1]? = some (.cells #[.int .i64 mm, .int .i64 ee, .int .i64 pp] 94 (0, 0)) := by
      rw [hW.block _ (by omega), hW0, Below.heap_alloc _ _ _ (by simp)]
      have := heap_alloc_new (bxw w v) (.cells #[.int .i64 mm, .int .i64 ee, .int .i64 pp] 94)
      simpa using this
    have e2 : W.heap[w.heap.size + 1 + 1]? = some (.cells #[.slice none 0 0] 25 (0, 0)) := by
      rw [hW.block _ (by omega), hW0]
      have := heap_alloc_new ((bxw w v).alloc (.cells #[.int .i64 mm, .int .i64 ee, .int .i64 pp] 94)) (.cells #[.slice none 0 0] 25)
      simpa using this
    exact ⟨cell_of_blk e0 rfl, ⟨cell_of_blk e1 rfl, cell_of_blk e1 rfl, cell_of_blk e1 rfl⟩, ⟨cell_of_blk e2 rfl, by simp [World.frozen?, e2], cell_set_same (cell_of_blk e2 rfl) _⟩, bw_tr hb0 hW⟩
  have KM : Hid (∀ W, Below w.heap.size w W → Calls Tryz.prog 33 #[.agg #[v]] W fun e w' => e = .returned (.int .i64 (if mayB T = true then 0 else 1)) ∧ Below W.heap.size W w') := fun W hW => rcheck_any (h.bw hW)
  have KF : Hid (mayB T = true → ∀ W, Below w.heap.size w W → Calls Tryz.prog 85 #[.agg #[v], .int .i64 mm] W fun e w' => e = .returned (.int .i64 (fnd T mm)) ∧ Below W.heap.size W w') := fun q W hW => by have := rfind_any (h.bw hW) mm; rw [if_pos q] at this; exact this
  have KB : Hid (mayB T = true → fb T = 8 → ∀ W, Below w.heap.size w W → Calls Tryz.prog 87 #[.agg #[v]] W fun e w' => e = .returned (.int .i64 (-1)) ∧ Below W.heap.size W w') := fun q h8 W hW => by
    have := rfree_any (h.bw hW) (mayB_15 q).1
    rw [if_neg (by have := fb_le T; have := (mayB_15 q).2; omega)] at this
    exact this
  have KL : Hid (mayB T = true → fb T = 8 → ∀ W, Below w.heap.size w W → Calls Tryz.prog 64 #[.agg #[v]] W fun e w' => e = .returned (.int .i64 8) ∧ Below W.heap.size W w') := fun q h8 W hW => by
    obtain ⟨a, c, rfl⟩ := h.slice
    have := rleaves_any a T.length c W h.len
    have e8 : rlv T.length = 8 := by
      have h1 := fb_le T
      have h2 := (mayB_15 q).2
      rcases mayB_wd q with e | hw
      · have h0 : nlv T = 0 := by rw [e]; rfl
        omega
      · obtain ⟨g1, g2, -⟩ := hw.facts
        have h3 := rlv_of g1
        rw [← g2] at h3
        omega
    rw [e8] at this
    exact this
  have KTw : Hid (mayB T = true → ∀ W, Below w.heap.size w W → Calls Tryz.prog 86 #[.agg #[v]] W fun e w' => ∃ r us, e = .returned (.agg #[r]) ∧ OTr W.heap.size w' r T us ∧ Below W.heap.size W w') := fun q W hW => rtwin_any (h.bw hW) (mayB_15 q).1 (fun x hx => by have := un_len q x hx; omega)
  have HW : Hid (W0 = ((w.alloc (.cells #[v] 25)).alloc (.cells #[.int .i64 mm, .int .i64 ee, .int .i64 pp] 94)).alloc (.cells #[.slice none 0 0] 25)) := hW0
  obtain ⟨E, hEE⟩ : ∃ E, E = addE T mm ee pp := ⟨_, rfl⟩
  rw [← hEE] at hE ⊢
  unfold addE at hEE
  have HE := hide hEE
  have HE0 := hide hE
  have HBS : Hid (∀ W, Below W0.heap.size W0 W → Below w.heap.size w (W.setCell ⟨w.heap.size + 1 + 1, 0, none⟩ (.slice none 0 0))) := fun W hW => (unhide HB _ hW).2.2.2.setCell (by simp; omega) _
  clear h hEE hE hW0 hs0
  generalize hp : mayB T = p at *
  clear hp
  generalize fnd T mm = fm at *
  generalize fb T = ib at *
  cases p
  · obtain rfl : E = 1 := by rw [unhide HE]; simp
    clear KF KB KL KTw HE
    go_enter Tryz.func74, Tryz.ntmps74
    go_wp2_with fail
    rw [← unhide HW]
    refine (unhide KM _ hb0).mono ?_
    rintro e W1 ⟨rfl, b1⟩
    obtain ⟨c0, ⟨c1, c2, c3⟩, ⟨c4, c5, c6⟩, hw1⟩ := unhide HB _ b1
    have c7 := unhide HBS _ b1
    clear KM HW
    go_wp2
    generalize W1.setCell ⟨w.heap.size + 1 + 1, 0, none⟩ (.slice none 0 0) = WZ at *
    exact bodyPost_ret (v := .tuple #[.agg #[.slice none 0 0], .int .i64 0, .int .i64 1]) (by simp [results, Tryz.results74, go_sem, c6]) rfl ⟨rfl, c7⟩
  · have KF2 := hide (unhide KF rfl)
    have KB2 := hide (unhide KB rfl)
    have KL2 := hide (unhide KL rfl)
    have KT2 := hide (unhide KTw rfl)
    clear KF KB KL KTw
    have hbad : (mm < 0 ∨ ee < 0 ∨ pp < 1) → E = 1 := fun q => by rw [unhide HE]; simp [q]
    by_cases n1 : mm < 0
    · obtain rfl := hbad (Or.inl n1)
      clear HE hbad
      go_enter Tryz.func74, Tryz.ntmps74
      go_wp2_with fail
      rw [← unhide HW]
      refine (unhide KM _ hb0).mono ?_
      rintro e W1 ⟨rfl, b1⟩
      obtain ⟨c0, ⟨c1, c2, c3⟩, ⟨c4, c5, c6⟩, hw1⟩ := unhide HB _ b1
      have c7 := unhide HBS _ b1
      clear KM HW
      go_wp2
      generalize W1.setCell ⟨w.heap.size + 1 + 1, 0, none⟩ (.slice none 0 0) = WZ at *
      exact bodyPost_ret (v := .tuple #[.agg #[.slice none 0 0], .int .i64 0, .int .i64 1]) (by simp [results, Tryz.results74, go_sem, c6]) rfl ⟨rfl, c7⟩
    · have n1' : decide (mm < 0) = false := decide_eq_false n1
      by_cases n2 : ee < 0
      · obtain rfl := hbad (Or.inr (Or.inl n2))
        clear HE hbad
        go_enter Tryz.func74, Tryz.ntmps74
        go_wp2_with fail
        rw [← unhide HW]
        refine (unhide KM _ hb0).mono ?_
        rintro e W1 ⟨rfl, b1⟩
        obtain ⟨c0, ⟨c1, c2, c3⟩, ⟨c4, c5, c6⟩, hw1⟩ := unhide HB _ b1
        have c7 := unhide HBS _ b1
        clear KM HW
        go_wp2
        generalize W1.setCell ⟨w.heap.size + 1 + 1, 0, none⟩ (.slice none 0 0) = WZ at *
        exact bodyPost_ret (v := .tuple #[.agg #[.slice none 0 0], .int .i64 0, .int .i64 1]) (by simp [results, Tryz.results74, go_sem, c6]) rfl ⟨rfl, c7⟩
      · have n2' : decide (ee < 0) = false := decide_eq_false n2
        by_cases n3 : pp < 1
        · obtain rfl := hbad (Or.inr (Or.inr n3))
          clear HE hbad
          go_enter Tryz.func74, Tryz.ntmps74
          go_wp2_with fail
          rw [← unhide HW]
          refine (unhide KM _ hb0).mono ?_
          rintro e W1 ⟨rfl, b1⟩
          obtain ⟨c0, ⟨c1, c2, c3⟩, ⟨c4, c5, c6⟩, hw1⟩ := unhide HB _ b1
          have c7 := unhide HBS _ b1
          clear KM HW
          go_wp2
          generalize W1.setCell ⟨w.heap.size + 1 + 1, 0, none⟩ (.slice none 0 0) = WZ at *
          exact bodyPost_ret (v := .tuple #[.agg #[.slice none 0 0], .int .i64 0, .int .i64 1]) (by simp [results, Tryz.results74, go_sem, c6]) rfl ⟨rfl, c7⟩
        · have n3' : decide (pp < 1) = false := decide_eq_false n3
          have HE2 : Hid (E = if 0 ≤ fm then 13 else if ib = 8 then 3 else 0) := by unfold Hid; rw [unhide HE, if_neg (by simp; omega)]
          clear HE hbad
          by_cases n4 : 0 ≤ fm
          · obtain rfl : E = 13 := by rw [unhide HE2, if_pos n4]
            clear HE2
            go_enter Tryz.func74, Tryz.ntmps74
            go_wp2_with fail
            rw [← unhide HW]
            refine (unhide KM _ hb0).mono ?_
            rintro e W1 ⟨rfl, b1⟩
            obtain ⟨c0, ⟨c1, c2, c3⟩, -, hw1⟩ := unhide HB _ b1
            clear KM HW
            go_wp2_with fail
            refine (unhide KF2 _ hw1).mono ?_
            rintro e W2 ⟨rfl, b2⟩
            have b3 := bw_tr b1 b2
            clear c0 c1 c2 c3
            obtain ⟨c0, -, ⟨c4, c5, c6⟩, hw3⟩ := unhide HB _ b3
            have c7 := unhide HBS _ b3
            go_wp2
            generalize W2.setCell ⟨w.heap.size + 1 + 1, 0, none⟩ (.slice none 0 0) = WZ at *
            exact bodyPost_ret (v := .tuple #[.agg #[.slice none 0 0], .int .i64 0, .int .i64 13]) (by simp [results, Tryz.results74, go_sem, c6]) rfl ⟨rfl, c7⟩
          · have n4' : decide (0 ≤ fm) = false := decide_eq_false n4
            have h8 : ib = 8 := by
              apply Decidable.byContradiction; intro c
              exact unhide HE0 (by rw [unhide HE2, if_neg n4, if_neg c])
            obtain rfl : E = 3 := by rw [unhide HE2, if_neg n4, if_pos h8]
            have KB3 := hide (unhide KB2 h8)
            have KL3 := hide (unhide KL2 h8)
            clear HE2 KB2 KL2 h8
            go_enter Tryz.func74, Tryz.ntmps74
            go_wp2_with fail
            rw [← unhide HW]
            refine (unhide KM _ hb0).mono ?_
            rintro e W1 ⟨rfl, b1⟩
            obtain ⟨c0, ⟨c1, c2, c3⟩, -, hw1⟩ := unhide HB _ b1
            clear KM HW
            go_wp2_with fail
            refine (unhide KF2 _ hw1).mono ?_
            rintro e W2 ⟨rfl, b2⟩
            have b3 := bw_tr b1 b2
            clear c0 c1 c2 c3
            obtain ⟨c0, -, -, hw3⟩ := unhide HB _ b3
            go_wp2_with fail
            refine (unhide KT2 _ hw3).mono ?_
            rintro e W3 ⟨r, us, rfl, hO, b4⟩
            have b5 := bw_tr b3 b4
            obtain ⟨ra, rc, hre⟩ := own_slice hO.row
            subst hre
            obtain ⟨WX, hWX⟩ : ∃ WX, WX = W3.alloc (.cells #[.slice ra T.length rc] 25) := ⟨_, rfl⟩
            have HWX := hide hWX
            have b6 : Below W0.heap.size W0 WX := by rw [hWX]; exact b5.alloc b5.size _
            clear c0 hO b4 b5 hWX
            obtain ⟨c0, -, -, hw6⟩ := unhide HB _ b6
            go_upto_region 6 with fail
            rw [← unhide HWX]
            clear HWX
            go_wp2_with fail
            refine (unhide KB3 _ hw6).mono ?_
            rintro e W7 ⟨rfl, b7⟩
            have b8 := bw_tr b6 b7
            clear c0
            obtain ⟨c0, -, -, hw8⟩ := unhide HB _ b8
            go_wp2_with fail
            refine (unhide KL3 _ hw8).mono ?_
            rintro e W9 ⟨rfl, b9⟩
            have b10 := bw_tr b8 b9
            clear c0
            obtain ⟨c0, -, ⟨c4, c5, c6⟩, hw10⟩ := unhide HB _ b10
            have c7 := unhide HBS _ b10
            go_wp2
            generalize W9.setCell ⟨w.heap.size + 1 + 1, 0, none⟩ (.slice none 0 0) = WZ at *
            exact bodyPost_ret (v := .tuple #[.agg #[.slice none 0 0], .int .i64 0, .int .i64 3]) (by simp [results, Tryz.results74, go_sem, c6]) rfl ⟨rfl, c7⟩
theorem radd_any {w : World} {v : Value} {T : List Nd} (h : Trd w v T) (mm ee pp : Int) :
    Calls Tryz.prog 74 #[.agg #[v], .agg #[.int .i64 mm, .int .i64 ee, .int .i64 pp]] w fun e w' => ∃ r us, e = .returned (.tuple #[.agg #[r], .int .i64 (addA T mm ee pp : Nat), .int .i64 (addE T mm ee pp)]) ∧ OTr w.heap.size w' r (addR T mm ee pp) us ∧ Below w.heap.size w w' := by
  by_cases hE : addE T mm ee pp = 0
  · refine (radd_ok h mm ee pp hE).mono ?_
    rintro e w' ⟨r, us, h1, h2, h3⟩
    refine ⟨r, us, ?_, ?_, h3⟩
    · rw [h1, hE]; unfold addA; rw [if_pos hE]
    · unfold addR; rw [if_pos hE]; exact h2
  · refine (radd_err h mm ee pp hE).mono ?_
    rintro e w' ⟨h1, h3⟩
    refine ⟨.slice none 0 0, [], ?_, ?_, h3⟩
    · rw [h1]; unfold addA; rw [if_neg hE]; rfl
    · unfold addR; rw [if_neg hE]; exact otr_nil _ _
set_option maxRecDepth 100000 in
set_option maxHeartbeats 4000000 in
theorem rnew_any {w : World} (mm ee pp : Int) :
    Calls Tryz.prog 48 #[.agg #[.int .i64 mm, .int .i64 ee, .int .i64 pp]] w fun e w' => ∃ r us, e = .returned (.tuple #[.agg #[r], .int .i64 (addE [] mm ee pp)]) ∧ OTr w.heap.size w' r (addR [] mm ee pp) us ∧ Below w.heap.size w w' := by
  obtain ⟨W0, hW0⟩ : ∃ W0, W0 = (w.alloc (.cells #[.int .i64 mm, .int .i64 ee, .int .i64 pp] 94)).alloc (.cells #[.slice none 0 0] 25) := ⟨_, rfl⟩
  have hb0 : Below w.heap.size w W0 := by rw [hW0]; exact (bwA _ _).alloc (by simp) _
  have hs0 : W0.heap.size = w.heap.size + 2 := by rw [hW0]; simp
  have HB : Hid (∀ W, Below W0.heap.size W0 W → (W.cell? ⟨w.heap.size + 1, 0, none⟩ = some (.slice none 0 0) ∧ W.frozen? ⟨w.heap.size + 1, 0, none⟩ = false) ∧ Below w.heap.size w W) := fun W hW => by
    have e2 : W.heap[w.heap.size + 1]? = some (.cells #[.slice none 0 0] 25 (0, 0)) := by
      rw [hW.block _ (by omega), hW0]
      have := heap_alloc_new (w.alloc (.cells #[.int .i64 mm, .int .i64 ee, .int .i64 pp] 94)) (.cells #[.slice none 0 0] 25)
      simpa using this
    exact ⟨⟨cell_of_blk e2 rfl, by simp [World.frozen?, e2]⟩, bw_tr hb0 hW⟩
  have KA := hide (radd_any (trd_nil W0) mm ee pp)
  have HW : Hid (W0 = (w.alloc (.cells #[.int .i64 mm, .int .i64 ee, .int .i64 pp] 94)).alloc (.cells #[.slice none 0 0] 25)) := hW0
  generalize addE [] mm ee pp = E at *
  generalize addR [] mm ee pp = R at *
  generalize addA [] mm ee pp = A at *
  clear hW0
  go_enter Tryz.func48, Tryz.ntmps48
  go_wp2_with fail
  rw [← unhide HW]
  refine (unhide KA).mono ?_
  rintro e W1 ⟨r, us, rfl, hO, b1⟩
  obtain ⟨ra, rc, rfl⟩ := own_slice hO.row
  obtain ⟨⟨c1, c2⟩, c3⟩ := unhide HB _ (b1.alloc b1.size (.cells #[.slice ra R.length rc] 25))
  have HF : Hid (OTr w.heap.size ((W1.alloc (.cells #[.slice ra R.length rc] 25)).setCell ⟨w.heap.size + 1, 0, none⟩ (.slice ra R.length rc)) (.slice ra R.length rc) R us ∧ Below w.heap.size w ((W1.alloc (.cells #[.slice ra R.length rc] 25)).setCell ⟨w.heap.size + 1, 0, none⟩ (.slice ra R.length rc))) :=
    ⟨((hO.bw (bwA _ _)).keepB (fun k hk => Below.heap_setCell _ _ _ _ (by simp; omega))).mono (by omega), c3.setCell (by simp) _⟩
  have cZ : ((W1.alloc (.cells #[.slice ra R.length rc] 25)).setCell ⟨w.heap.size + 1, 0, none⟩ (.slice ra R.length rc)).cell? ⟨w.heap.size + 1, 0, none⟩ = some (.slice ra R.length rc) := cell_set_same c1 _
  generalize R.length = RL at *
  clear hO KA HW HB hs0
  go_wp2_with fail
  generalize (W1.alloc (.cells #[.slice ra RL rc] 25)).setCell ⟨w.heap.size + 1, 0, none⟩ (.slice ra RL rc) = WZ at *
  exact bodyPost_ret (v := .tuple #[.agg #[.slice ra RL rc], .int .i64 E]) (by simp [results, Tryz.results48, go_sem, cZ]) rfl ⟨_, _, rfl, (unhide HF).1, (unhide HF).2⟩
end Go.Proofs.YtcbafeneaoaglaaGreatDoor
