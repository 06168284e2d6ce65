/- Texts joined: TeG TeH0 TeH TeI. -/
import Derived.Test.YtpgppnmobbgefaaGreatDoorTeF
import Derived.Test.YtpgppnmobbgefaaGreatDoorZ09
import Derived.Test.YtpgppnmobbgefaaGreatDoorTrO
import Derived.Test.YtpgppnmobbgefaaGreatDoorZ13
/- The contracts of the document's Add, whatever comes of it, and of New. -/
namespace Go.Proofs.YtpgppnmobbgefaaGreatDoor
open Go.RowKit Go.Maps

set_option maxRecDepth 100000 in
set_option maxHeartbeats 4000000 in
theorem radd_err {w : World} {v : Value} {T : List Nd} (h : Trd w v T) (mm ee pp : Int) (hE : addE T mm ee pp ≠ 0) :
    Calls Tryz.prog 26 #[.agg #[v], .agg #[.int .i64 mm, .int .i64 ee, .int .i64 pp]] w fun e w' => e = .returned (.tuple #[.agg #[.slice none 0 0], .int .i64 0, .int .i64 (addE T mm ee pp)]) ∧ Below w.heap.size w w' := by
  obtain ⟨W0, hW0⟩ : ∃ W0, W0 = ((bxw w v).alloc (.cells #[.int .i64 mm, .int .i64 ee, .int .i64 pp] 75)).alloc (.cells #[.slice none 0 0] 24) := ⟨_, rfl⟩
  have hb0 : Below w.heap.size w W0 := by rw [hW0]; exact ((bwA _ _).alloc (by simp) _).alloc (by simp; omega) _
  have hs0 : W0.heap.size = w.heap.size + 3 := by rw [hW0]; simp
  have HB : Hid (∀ W, Below W0.heap.size W0 W → W.cell? ⟨w.heap.size, 0, none⟩ = some v ∧ (W.cell? ⟨w.heap.size + 1, 0, none⟩ = some (.int .i64 mm) ∧ W.cell? ⟨w.heap.size + 1, 1, none⟩ = some (.int .i64 ee) ∧ W.cell? ⟨w.heap.size + 1, 2, none⟩ = some (.int .i64 pp)) ∧ (W.cell? ⟨w.heap.size + 1 + 1, 0, none⟩ = some (.slice none 0 0) ∧ W.frozen? ⟨w.heap.size + 1 + 1, 0, none⟩ = false ∧ (W.setCell ⟨w.heap.size + 1 + 1, 0, none⟩ (.slice none 0 0)).cell? ⟨w.heap.size + 1 + 1, 0, none⟩ = some (.slice none 0 0)) ∧ Below w.heap.size w W) := fun W hW => by
    have e0 : W.heap[w.heap.size]? = some (.cells #[v] 24 (0, 0)) := by
      rw [hW.block _ (by omega), hW0, Below.heap_alloc _ _ _ (by simp; omega), Below.heap_alloc _ _ _ (by simp)]; exact heap_alloc_new _ _
    have e1 : W.heap[w.heap.size + 1]? = some (.cells #[.int .i64 mm, .int .i64 ee, .int .i64 pp] 75 (0, 0)) := by
      rw [hW.block _ (by omega), hW0, Below.heap_alloc _ _ _ (by simp)]
      have := heap_alloc_new (bxw w v) (.cells #[.int .i64 mm, .int .i64 ee, .int .i64 pp] 75)
      simpa using this
    have e2 : W.heap[w.heap.size + 1 + 1]? = some (.cells #[.slice none 0 0] 24 (0, 0)) := by
      rw [hW.block _ (by omega), hW0]
      have := heap_alloc_new ((bxw w v).alloc (.cells #[.int .i64 mm, .int .i64 ee, .int .i64 pp] 75)) (.cells #[.slice none 0 0] 24)
      simpa using this
    exact ⟨cell_of_blk e0 rfl, ⟨cell_of_blk e1 rfl, cell_of_blk e1 rfl, cell_of_blk e1 rfl⟩, ⟨cell_of_blk e2 rfl, by simp [World.frozen?, e2], cell_set_same (cell_of_blk e2 rfl) _⟩, bw_tr hb0 hW⟩
  have KM : Hid (∀ W, Below w.heap.size w W → Calls Tryz.prog 15 #[.agg #[v]] W fun e w' => e = .returned (.int .i64 (if mayB T = true then 0 else 1)) ∧ Below W.heap.size W w') := fun W hW => rcheck_any (h.bw hW)
  have KF : Hid (mayB T = true → ∀ W, Below w.heap.size w W → Calls Tryz.prog 17 #[.agg #[v], .int .i64 mm] W fun e w' => e = .returned (.int .i64 (fnd T mm)) ∧ Below W.heap.size W w') := fun q W hW => by have := rfind_any (h.bw hW) mm; rw [if_pos q] at this; exact this
  have KB : Hid (mayB T = true → fb T = 8 → ∀ W, Below w.heap.size w W → Calls Tryz.prog 162 #[.agg #[v]] W fun e w' => e = .returned (.int .i64 (-1)) ∧ Below W.heap.size W w') := fun q h8 W hW => by
    have := rfree_any (h.bw hW) (mayB_15 q).1
    rw [if_neg (by have := fb_le T; have := (mayB_15 q).2; omega)] at this
    exact this
  have KL : Hid (mayB T = true → fb T = 8 → ∀ W, Below w.heap.size w W → Calls Tryz.prog 48 #[.agg #[v]] W fun e w' => e = .returned (.int .i64 8) ∧ Below W.heap.size W w') := fun q h8 W hW => by
    obtain ⟨a, c, rfl⟩ := h.slice
    have := rleaves_any a T.length c W h.len
    have e8 : rlv T.length = 8 := by
      have h1 := fb_le T
      have h2 := (mayB_15 q).2
      rcases mayB_wd q with e | hw
      · have h0 : nlv T = 0 := by rw [e]; rfl
        omega
      · obtain ⟨g1, g2, -⟩ := hw.facts
        have h3 := rlv_of g1
        rw [← g2] at h3
        omega
    rw [e8] at this
    exact this
  have KTw : Hid (mayB T = true → ∀ W, Below w.heap.size w W → Calls Tryz.prog 161 #[.agg #[v]] W fun e w' => ∃ r us, e = .returned (.agg #[r]) ∧ OTr W.heap.size w' r T us ∧ Below W.heap.size W w') := fun q W hW => rtwin_any (h.bw hW) (mayB_15 q).1 (fun x hx => by have := un_len q x hx; omega)
  have HW : Hid (W0 = ((w.alloc (.cells #[v] 24)).alloc (.cells #[.int .i64 mm, .int .i64 ee, .int .i64 pp] 75)).alloc (.cells #[.slice none 0 0] 24)) := hW0
  obtain ⟨E, hEE⟩ : ∃ E, E = addE T mm ee pp := ⟨_, rfl⟩
  rw [← hEE] at hE ⊢
  unfold addE at hEE
  have HE := hide hEE
  have HE0 := hide hE
  have HBS : Hid (∀ W, Below W0.heap.size W0 W → Below w.heap.size w (W.setCell ⟨w.heap.size + 1 + 1, 0, none⟩ (.slice none 0 0))) := fun W hW => (unhide HB _ hW).2.2.2.setCell (by simp; omega) _
  clear h hEE hE hW0 hs0
  generalize hp : mayB T = p at *
  clear hp
  generalize fnd T mm = fm at *
  generalize fb T = ib at *
  cases p
  · obtain rfl : E = 1 := by rw [unhide HE]; simp
    clear KF KB KL KTw HE
    go_enter Tryz.func26, Tryz.ntmps26
    go_wp2_with fail
    rw [← unhide HW]
    refine (unhide KM _ hb0).mono ?_
    rintro e W1 ⟨rfl, b1⟩
    obtain ⟨c0, ⟨c1, c2, c3⟩, ⟨c4, c5, c6⟩, hw1⟩ := unhide HB _ b1
    have c7 := unhide HBS _ b1
    clear KM HW
    go_wp2
    generalize W1.setCell ⟨w.heap.size + 1 + 1, 0, none⟩ (.slice none 0 0) = WZ at *
    exact bodyPost_ret (v := .tuple #[.agg #[.slice none 0 0], .int .i64 0, .int .i64 1]) (by simp [results, Tryz.results26, go_sem, c6]) rfl ⟨rfl, c7⟩
  · have KF2 := hide (unhide KF rfl)
    have KB2 := hide (unhide KB rfl)
    have KL2 := hide (unhide KL rfl)
    have KT2 := hide (unhide KTw rfl)
    clear KF KB KL KTw
    have hbad : (mm < 0 ∨ ee < 0 ∨ pp < 1) → E = 1 := fun q => by rw [unhide HE]; simp [q]
    by_cases n1 : mm < 0
    · obtain rfl := hbad (Or.inl n1)
      clear HE hbad
      go_enter Tryz.func26, Tryz.ntmps26
      go_wp2_with fail
      rw [← unhide HW]
      refine (unhide KM _ hb0).mono ?_
      rintro e W1 ⟨rfl, b1⟩
      obtain ⟨c0, ⟨c1, c2, c3⟩, ⟨c4, c5, c6⟩, hw1⟩ := unhide HB _ b1
      have c7 := unhide HBS _ b1
      clear KM HW
      go_wp2
      generalize W1.setCell ⟨w.heap.size + 1 + 1, 0, none⟩ (.slice none 0 0) = WZ at *
      exact bodyPost_ret (v := .tuple #[.agg #[.slice none 0 0], .int .i64 0, .int .i64 1]) (by simp [results, Tryz.results26, go_sem, c6]) rfl ⟨rfl, c7⟩
    · have n1' : decide (mm < 0) = false := decide_eq_false n1
      by_cases n2 : ee < 0
      · obtain rfl := hbad (Or.inr (Or.inl n2))
        clear HE hbad
        go_enter Tryz.func26, Tryz.ntmps26
        go_wp2_with fail
        rw [← unhide HW]
        refine (unhide KM _ hb0).mono ?_
        rintro e W1 ⟨rfl, b1⟩
        obtain ⟨c0, ⟨c1, c2, c3⟩, ⟨c4, c5, c6⟩, hw1⟩ := unhide HB _ b1
        have c7 := unhide HBS _ b1
        clear KM HW
        go_wp2
        generalize W1.setCell ⟨w.heap.size + 1 + 1, 0, none⟩ (.slice none 0 0) = WZ at *
        exact bodyPost_ret (v := .tuple #[.agg #[.slice none 0 0], .int .i64 0, .int .i64 1]) (by simp [results, Tryz.results26, go_sem, c6]) rfl ⟨rfl, c7⟩
      · have n2' : decide (ee < 0) = false := decide_eq_false n2
        by_cases n3 : pp < 1
        · obtain rfl := hbad (Or.inr (Or.inr n3))
          clear HE hbad
          go_enter Tryz.func26, Tryz.ntmps26
          go_wp2_with fail
          rw [← unhide HW]
          refine (unhide KM _ hb0).mono ?_
          rintro e W1 ⟨rfl, b1⟩
          obtain ⟨c0, ⟨c1, c2, c3⟩, ⟨c4, c5, c6⟩, hw1⟩ := unhide HB _ b1
          have c7 := unhide HBS _ b1
          clear KM HW
          go_wp2
          generalize W1.setCell ⟨w.heap.size + 1 + 1, 0, none⟩ (.slice none 0 0) = WZ at *
          exact bodyPost_ret (v := .tuple #[.agg #[.slice none 0 0], .int .i64 0, .int .i64 1]) (by simp [results, Tryz.results26, go_sem, c6]) rfl ⟨rfl, c7⟩
        · have n3' : decide (pp < 1) = false := decide_eq_false n3
          have HE2 : Hid (E = if 0 ≤ fm then 13 else if ib = 8 then 3 else 0) := by unfold Hid; rw [unhide HE, if_neg (by simp; omega)]
          clear HE hbad
          by_cases n4 : 0 ≤ fm
          · obtain rfl : E = 13 := by rw [unhide HE2, if_pos n4]
            clear HE2
            go_enter Tryz.func26, Tryz.ntmps26
            go_wp2_with fail
            rw [← unhide HW]
            refine (unhide KM _ hb0).mono ?_
            rintro e W1 ⟨rfl, b1⟩
            obtain ⟨c0, ⟨c1, c2, c3⟩, -, hw1⟩ := unhide HB _ b1
            clear KM HW
            go_wp2_with fail
            refine (unhide KF2 _ hw1).mono ?_
            rintro e W2 ⟨rfl, b2⟩
            have b3 := bw_tr b1 b2
            clear c0 c1 c2 c3
            obtain ⟨c0, -, ⟨c4, c5, c6⟩, hw3⟩ := unhide HB _ b3
            have c7 := unhide HBS _ b3
            go_wp2
            generalize W2.setCell ⟨w.heap.size + 1 + 1, 0, none⟩ (.slice none 0 0) = WZ at *
            exact bodyPost_ret (v := .tuple #[.agg #[.slice none 0 0], .int .i64 0, .int .i64 13]) (by simp [results, Tryz.results26, go_sem, c6]) rfl ⟨rfl, c7⟩
          · have n4' : decide (0 ≤ fm) = false := decide_eq_false n4
            have h8 : ib = 8 := by
              apply Decidable.byContradiction; intro c
              exact unhide HE0 (by rw [unhide HE2, if_neg n4, if_neg c])
            obtain rfl : E = 3 := by rw [unhide HE2, if_neg n4, if_pos h8]
            have KB3 := hide (unhide KB2 h8)
            have KL3 := hide (unhide KL2 h8)
            clear HE2 KB2 KL2 h8
            go_enter Tryz.func26, Tryz.ntmps26
            go_wp2_with fail
            rw [← unhide HW]
            refine (unhide KM _ hb0).mono ?_
            rintro e W1 ⟨rfl, b1⟩
            obtain ⟨c0, ⟨c1, c2, c3⟩, -, hw1⟩ := unhide HB _ b1
            clear KM HW
            go_wp2_with fail
            refine (unhide KF2 _ hw1).mono ?_
            rintro e W2 ⟨rfl, b2⟩
            have b3 := bw_tr b1 b2
            clear c0 c1 c2 c3
            obtain ⟨c0, -, -, hw3⟩ := unhide HB _ b3
            go_wp2_with fail
            refine (unhide KT2 _ hw3).mono ?_
            rintro e W3 ⟨r, us, rfl, hO, b4⟩
            have b5 := bw_tr b3 b4
            obtain ⟨ra, rc, hre⟩ := own_slice hO.row
            subst hre
            obtain ⟨WX, hWX⟩ : ∃ WX, WX = W3.alloc (.cells #[.slice ra T.length rc] 24) := ⟨_, rfl⟩
            have HWX := hide hWX
            have b6 : Below W0.heap.size W0 WX := by rw [hWX]; exact b5.alloc b5.size _
            clear c0 hO b4 b5 hWX
            obtain ⟨c0, -, -, hw6⟩ := unhide HB _ b6
            go_upto_region 6 with fail
            rw [← unhide HWX]
            clear HWX
            go_wp2_with fail
            refine (unhide KB3 _ hw6).mono ?_
            rintro e W7 ⟨rfl, b7⟩
            have b8 := bw_tr b6 b7
            clear c0
            obtain ⟨c0, -, -, hw8⟩ := unhide HB _ b8
            go_wp2_with fail
            refine (unhide KL3 _ hw8).mono ?_
            rintro e W9 ⟨rfl, b9⟩
            have b10 := bw_tr b8 b9
            clear c0
            obtain ⟨c0, -, ⟨c4, c5, c6⟩, hw10⟩ := unhide HB _ b10
            have c7 := unhide HBS _ b10
            go_wp2
            generalize W9.setCell ⟨w.heap.size + 1 + 1, 0, none⟩ (.slice none 0 0) = WZ at *
            exact bodyPost_ret (v := .tuple #[.agg #[.slice none 0 0], .int .i64 0, .int .i64 3]) (by simp [results, Tryz.results26, go_sem, c6]) rfl ⟨rfl, c7⟩
theorem radd_any {w : World} {v : Value} {T : List Nd} (h : Trd w v T) (mm ee pp : Int) :
    Calls Tryz.prog 26 #[.agg #[v], .agg #[.int .i64 mm, .int .i64 ee, .int .i64 pp]] w fun e w' => ∃ r us, e = .returned (.tuple #[.agg #[r], .int .i64 (addA T mm ee pp : Nat), .int .i64 (addE T mm ee pp)]) ∧ OTr w.heap.size w' r (addR T mm ee pp) us ∧ Below w.heap.size w w' := by
  by_cases hE : addE T mm ee pp = 0
  · refine (radd_ok h mm ee pp hE).mono ?_
    rintro e w' ⟨r, us, h1, h2, h3⟩
    refine ⟨r, us, ?_, ?_, h3⟩
    · rw [h1, hE]; unfold addA; rw [if_pos hE]
    · unfold addR; rw [if_pos hE]; exact h2
  · refine (radd_err h mm ee pp hE).mono ?_
    rintro e w' ⟨h1, h3⟩
    refine ⟨.slice none 0 0, [], ?_, ?_, h3⟩
    · rw [h1]; unfold addA; rw [if_neg hE]; rfl
    · unfold addR; rw [if_neg hE]; exact otr_nil _ _
set_option maxRecDepth 100000 in
set_option maxHeartbeats 4000000 in
theorem rnew_any {w : World} (mm ee pp : Int) :
    Calls Tryz.prog 28 #[.agg #[.int .i64 mm, .int .i64 ee, .int .i64 pp]] w fun e w' => ∃ r us, e = .returned (.tuple #[.agg #[r], .int .i64 (addE [] mm ee pp)]) ∧ OTr w.heap.size w' r (addR [] mm ee pp) us ∧ Below w.heap.size w w' := by
  obtain ⟨W0, hW0⟩ : ∃ W0, W0 = (w.alloc (.cells #[.int .i64 mm, .int .i64 ee, .int .i64 pp] 75)).alloc (.cells #[.slice none 0 0] 24) := ⟨_, rfl⟩
  have hb0 : Below w.heap.size w W0 := by rw [hW0]; exact (bwA _ _).alloc (by simp) _
  have hs0 : W0.heap.size = w.heap.size + 2 := by rw [hW0]; simp
  have HB : Hid (∀ W, Below W0.heap.size W0 W → (W.cell? ⟨w.heap.size + 1, 0, none⟩ = some (.slice none 0 0) ∧ W.frozen? ⟨w.heap.size + 1, 0, none⟩ = false) ∧ Below w.heap.size w W) := fun W hW => by
    have e2 : W.heap[w.heap.size + 1]? = some (.cells #[.slice none 0 0] 24 (0, 0)) := by
      rw [hW.block _ (by omega), hW0]
      have := heap_alloc_new (w.alloc (.cells #[.int .i64 mm, .int .i64 ee, .int .i64 pp] 75)) (.cells #[.slice none 0 0] 24)
      simpa using this
    exact ⟨⟨cell_of_blk e2 rfl, by simp [World.frozen?, e2]⟩, bw_tr hb0 hW⟩
  have KA := hide (radd_any (trd_nil W0) mm ee pp)
  have HW : Hid (W0 = (w.alloc (.cells #[.int .i64 mm, .int .i64 ee, .int .i64 pp] 75)).alloc (.cells #[.slice none 0 0] 24)) := hW0
  generalize addE [] mm ee pp = E at *
  generalize addR [] mm ee pp = R at *
  generalize addA [] mm ee pp = A at *
  clear hW0
  go_enter Tryz.func28, Tryz.ntmps28
  go_wp2_with fail
  rw [← unhide HW]
  refine (unhide KA).mono ?_
  rintro e W1 ⟨r, us, rfl, hO, b1⟩
  obtain ⟨ra, rc, rfl⟩ := own_slice hO.row
  obtain ⟨⟨c1, c2⟩, c3⟩ := unhide HB _ (b1.alloc b1.size (.cells #[.slice ra R.length rc] 24))
  have HF : Hid (OTr w.heap.size ((W1.alloc (.cells #[.slice ra R.length rc] 24)).setCell ⟨w.heap.size + 1, 0, none⟩ (.slice ra R.length rc)) (.slice ra R.length rc) R us ∧ Below w.heap.size w ((W1.alloc (.cells #[.slice ra R.length rc] 24)).setCell ⟨w.heap.size + 1, 0, none⟩ (.slice ra R.length rc))) :=
    ⟨((hO.bw (bwA _ _)).keepB (fun k hk => Below.heap_setCell _ _ _ _ (by simp; omega))).mono (by omega), c3.setCell (by simp) _⟩
  have cZ : ((W1.alloc (.cells #[.slice ra R.length rc] 24)).setCell ⟨w.heap.size + 1, 0, none⟩ (.slice ra R.length rc)).cell? ⟨w.heap.size + 1, 0, none⟩ = some (.slice ra R.length rc) := cell_set_same c1 _
  generalize R.length = RL at *
  clear hO KA HW HB hs0
  go_wp2_with fail
  generalize (W1.alloc (.cells #[.slice ra RL rc] 24)).setCell ⟨w.heap.size + 1, 0, none⟩ (.slice ra RL rc) = WZ at *
  exact bodyPost_ret (v := .tuple #[.agg #[.slice ra RL rc], .int .i64 E]) (by simp [results, Tryz.results28, go_sem, cZ]) rfl ⟨_, _, rfl, (unhide HF).1, (unhide HF).2⟩
end Go.Proofs.YtpgppnmobbgefaaGreatDoor

/- A tree that is cut shorter; plain facts for the document's Remove. -/
namespace Go.Proofs.YtpgppnmobbgefaaGreatDoor
open Go.RowKit Go.Maps

theorem treeC_take {T : List Nd} {us : List Value} (h : us.length = T.length) (k : Nat) : (treeC T us).take (k * 4) = treeC (T.take k) (us.take k) := by
  rcases Nat.lt_or_ge T.length k with c | c
  · rw [List.take_of_length_le (by rw [treeC_len h]; omega), List.take_of_length_le (by omega), List.take_of_length_le (by omega)]
  · have e : treeC T us = treeC (T.take k) (us.take k) ++ treeC (T.drop k) (us.drop k) := by
      rw [← treeC_app (by simp [h]), List.take_append_drop, List.take_append_drop]
    rw [e, List.take_left' (by rw [treeC_len (by simp [h])]; simp; omega)]
/-- A tree of one's own, shorter. -/
theorem OTr.short {B : Nat} {w : World} {g m mc : Nat} {T : List Nd} {us : List Value} (h : OTr B w (.slice (some ⟨g, 0, none⟩) m mc) T us) {k : Nat} (hk : k ≤ m) : OTr B w (.slice (some ⟨g, 0, none⟩) k mc) (T.take k) (us.take k) := by
  have hm := h.len
  have hkl : (T.take k).length = k := by rw [List.length_take]; omega
  refine ⟨by simp [h.ul], ?_, fun i n u hn hu => ?_, fun i j u u' q h1 h2 h3 h4 => ?_⟩
  · rw [hkl]
    refine ⟨by rw [treeC_len (by simp [h.ul]), hkl], ?_⟩
    rcases h.row.2 with ⟨e, _⟩ | ⟨g', cap, cur, e, hB, hg, q1, q2, q3, q4⟩
    · cases e
    · cases e
      refine Or.inr ⟨g, mc, cur, rfl, hB, hg, by omega, q2, q3, ?_⟩
      rw [← treeC_take h.ul k, ← q4, List.take_take, Nat.min_eq_left (by omega)]
  · have hi : i < k := by have := (List.getElem?_eq_some_iff.1 hn).1; omega
    rw [List.getElem?_take_of_lt hi] at hn hu
    exact h.un i n u hn hu
  · have hi : i < k := by have := (List.getElem?_eq_some_iff.1 h1).1; simp at this; omega
    have hj : j < k := by have := (List.getElem?_eq_some_iff.1 h2).1; simp at this; omega
    rw [List.getElem?_take_of_lt hi] at h1
    rw [List.getElem?_take_of_lt hj] at h2
    exact h.apart i j u u' q h1 h2 h3 h4
theorem DX.cut {W0 wr : World} {nb g m mc : Nat} {T : List Nd} {us : List Value} (h : DX W0 wr nb g m mc T us) (hl : W0.heap.size ≤ nb) {k : Nat} (hk : k ≤ m) : DX W0 (wr.setCell ⟨nb, 0, none⟩ (.slice (some ⟨g, 0, none⟩) k mc)) nb g k mc (T.take k) (us.take k) := by
  have hO := h.tr.short hk
  have hno : ∀ q, q ∈ g :: rrB us → q ≠ nb := fun q hq c => h.notin (by rw [← c]; exact hq)
  refine ⟨h.bel.setCell hl _, ⟨hO.ul, own_keep hO.row (fun q hq => Below.heap_setCell _ _ _ _ (by cases hq; simp; exact hno g (by simp))), fun i n u hn hu => own_keep (hO.un i n u hn hu) (fun q hq => Below.heap_setCell _ _ _ _ (by
    simp
    refine hno q (List.mem_cons_of_mem _ (mem_rrB.2 ⟨i, u, ?_, hq⟩))
    have hi : i < k := by have := (List.getElem?_eq_some_iff.1 hu).1; simp at this; omega
    rw [List.getElem?_take_of_lt hi] at hu
    exact hu)), hO.apart⟩, by rw [setCell_blk h.box]; rfl⟩
theorem anyM_take {T : List Nd} {k a n : Nat} (h : 2 * n ≤ k + 1) : anyM (T.take k) a n = anyM T a n := by
  unfold anyM
  have : ∀ (l : List Nat), (∀ x ∈ l, 2 * x < k) → l.any (fun i => decide (a ≤ i) && pos (ndAt (T.take k) (2 * i))) = l.any (fun i => decide (a ≤ i) && pos (ndAt T (2 * i))) := by
    intro l
    induction l with
    | nil => intro _; rfl
    | cons x l ih =>
      intro hx
      rw [List.any_cons, List.any_cons, ih (fun y hy => hx y (List.mem_cons_of_mem _ hy))]
      have hlt := hx x (by simp)
      have e : ndAt (T.take k) (2 * x) = ndAt T (2 * x) := by
        unfold ndAt; rw [List.getD_eq_getElem?_getD, List.getD_eq_getElem?_getD, List.getElem?_take_of_lt hlt]
      rw [e]
  exact this _ (fun x hx => by have := List.mem_range.1 hx; omega)
theorem fit_take {T : List Nd} {m : Nat} (h : m ≤ T.length) : fit m T = T.take m := by
  rw [fit_eq, show m - T.length = 0 by omega]; simp
theorem mems_len8b {T : List Nd} (h : mayB T = true) : (mems T).length ≤ 8 := by
  have h1 : (mems T).length ≤ (lvs T).length := by unfold mems; exact memsOf_len _
  rw [lvs_len] at h1
  have := (mayB_15 h).2
  omega
theorem own_blk {B c : Nat} {w : World} {e : TypeId} {g o m mc : Nat} {n : Nat} {xs : List Value} (h : w.ownsRow B e c (.slice (some ⟨g, o, none⟩) m mc) n xs) : (Value.slice (some ⟨g, o, none⟩) m mc).ownBlock = some g := by
  rcases h.2 with ⟨e, _⟩ | ⟨g', cap, cur, e, _⟩
  · cases e
  · cases e; rfl
end Go.Proofs.YtpgppnmobbgefaaGreatDoor

/- The contract of the document's Remove, where it is not refused. -/
namespace Go.Proofs.YtpgppnmobbgefaaGreatDoor
open Go.RowKit Go.Maps

set_option maxRecDepth 100000 in
set_option maxHeartbeats 8000000 in
theorem rrem_ok {w : World} {v : Value} {T : List Nd} (h : Trd w v T) (mm : Int) (hE : remE T mm = 0) :
    Calls Tryz.prog 27 #[.agg #[v], .int .i64 mm] w fun e w' => ∃ r us, e = .returned (.tuple #[.agg #[r], .int .i64 0]) ∧ OTr w.heap.size w' r (remT T mm) us ∧ Below w.heap.size w w' := by
  have q : mayB T = true ∧ ¬ fnd T mm < 0 ∧ (mems T).length ≠ 1 := by
    unfold remE at hE
    split at hE
    · cases hE
    · rename_i hh
      split at hE
      · cases hE
      · split at hE
        · cases hE
        · exact ⟨by simpa using hh, by omega, by omega⟩
  obtain ⟨qm, q1, q2⟩ := q
  obtain ⟨i, hi, hil, _⟩ := fnd_range q1
  have ok := mayB_okn qm (nlv_pos (by omega))
  obtain ⟨r1, g2, g3, g4, g5⟩ := ok.wd.facts
  obtain ⟨d1, d2, d3, d4, d5, d6⟩ := up_of r1 hil
  have d7 := up_len r1 hil
  have HREM : Hid (remT T mm = fit (2 * need (blk i T) - 1) (blk i T)) := by unfold Hid remT; rw [hi]; rfl
  have HBLK : Hid (blk i T = onAll (fun _ => nd0) (upN (nlv T) i) (T.set (2 * i) nd0)) := rfl
  obtain ⟨a, c, rfl⟩ := h.slice
  obtain ⟨W0, hW0⟩ : ∃ W0, W0 = (bxw w (.slice a T.length c)).alloc (.cells #[.slice none 0 0] 24) := ⟨_, rfl⟩
  have hb0 : Below w.heap.size w W0 := by rw [hW0]; exact (bwA _ _).alloc (by simp) _
  have hs0 : W0.heap.size = w.heap.size + 2 := by rw [hW0]; simp
  have HB : Hid (∀ W, Below W0.heap.size W0 W → W.cell? ⟨w.heap.size, 0, none⟩ = some (.slice a T.length c) ∧ (W.heap[w.heap.size + 1]? = some (.cells #[.slice none 0 0] 24 (0, 0)) ∧ W.cell? ⟨w.heap.size + 1, 0, none⟩ = some (.slice none 0 0) ∧ W.frozen? ⟨w.heap.size + 1, 0, none⟩ = false) ∧ Below w.heap.size w W) := fun W hW => by
    have e0 : W.heap[w.heap.size]? = some (.cells #[.slice a T.length c] 24 (0, 0)) := by
      rw [hW.block _ (by omega), hW0, Below.heap_alloc _ _ _ (by simp)]; exact heap_alloc_new _ _
    have e2 : W.heap[w.heap.size + 1]? = some (.cells #[.slice none 0 0] 24 (0, 0)) := by
      rw [hW.block _ (by omega), hW0]
      have := heap_alloc_new (bxw w (.slice a T.length c)) (.cells #[.slice none 0 0] 24)
      simpa using this
    exact ⟨cell_of_blk e0 rfl, ⟨e2, cell_of_blk e2 rfl, by simp [World.frozen?, e2]⟩, bw_tr hb0 hW⟩
  have KM : Hid (∀ W, Below w.heap.size w W → Calls Tryz.prog 15 #[.agg #[.slice a T.length c]] W fun e w' => e = .returned (.int .i64 0) ∧ Below W.heap.size W w') := fun W hW => by
    have := rcheck_any (h.bw hW); rw [qm] at this; exact this
  have KF : Hid (∀ W, Below w.heap.size w W → Calls Tryz.prog 17 #[.agg #[.slice a T.length c], .int .i64 mm] W fun e w' => e = .returned (.int .i64 (i : Int)) ∧ Below W.heap.size W w') := fun W hW => by
    have := rfind_any (h.bw hW) mm; rw [qm, if_pos rfl, hi] at this; exact this
  have KB : Hid (∀ W, Below w.heap.size w W → Calls Tryz.prog 14 #[.agg #[.slice a T.length c]] W fun e w' => ∃ r, e = .returned r ∧ Ints W.heap.size w' r (mems T) ∧ Below W.heap.size W w') := fun W hW => by
    have := rmembers_any (h.bw hW); rw [qm, if_pos rfl] at this; exact this
  have KT : Hid (∀ W, Below w.heap.size w W → Calls Tryz.prog 161 #[.agg #[.slice a T.length c]] W fun e w' => ∃ r us, e = .returned (.agg #[r]) ∧ OTr W.heap.size w' r T us ∧ Below W.heap.size W w') := fun W hW => rtwin_any (h.bw hW) (mayB_15 qm).1 (fun x hx => by have := un_len qm x hx; omega)
  have hrl : rlv T.length = nlv T := by have := rlv_of r1; rw [← g2] at this; exact this
  have KL : Hid (∀ W, Calls Tryz.prog 48 #[.agg #[.slice a T.length c]] W fun e w' => e = .returned (.int .i64 (nlv T : Nat)) ∧ Below W.heap.size W w') := fun W => by have := rleaves_any a T.length c W h.len; rw [hrl] at this; exact this
  have HW : Hid (W0 = (w.alloc (.cells #[.slice a T.length c] 24)).alloc (.cells #[.slice none 0 0] 24)) := hW0
  have HU2 : Hid (∀ x, (ndAt T x).un.length ≤ 8) := fun x => (un_ok qm x).2
  have ml8 := mems_len8b qm
  obtain ⟨ml, hml⟩ : ∃ ml, ml = (mems T).length := ⟨_, rfl⟩
  rw [← hml] at q2 ml8
  have m1 : ((ml : Int) == 1) = false := beq_eq_false_iff_ne.2 (by omega)
  have m2 : decide ((ml : Int) = 1) = false := decide_eq_false (by omega)
  have m3 : decide (ml = 1) = false := decide_eq_false q2
  have HML := hide hml
  have i0 : decide ((i : Int) < 0) = false := decide_eq_false (by omega)
  have i1 : ¬ ((i : Int) < 0) := by omega
  have HG := hide (And.intro g2 (And.intro r1 (And.intro hil (And.intro d4 (And.intro d5 d7)))))
  have HD1 := hide d1
  have HS0 := hide hs0
  clear hE q1 q2 ok r1 g2 g3 g4 g5 d1 d2 d3 d4 d5 d6 d7 hW0 h qm hil hi hs0 hrl hml
  obtain ⟨n, hn⟩ : ∃ n, n = nlv T := ⟨_, rfl⟩
  rw [← hn] at KL HBLK HG HD1
  clear hn
  obtain ⟨mn, hmn⟩ : ∃ mn, mn = T.length := ⟨_, rfl⟩
  rw [← hmn] at HB KM KF KB KT KL HW HG ⊢
  have HN := hide hmn
  clear hmn
  go_enter Tryz.func27, Tryz.ntmps27
  go_wp2_with fail
  rw [← unhide HW]
  refine (unhide KM _ hb0).mono ?_
  rintro e W1 ⟨rfl, b1⟩
  obtain ⟨c0, -, hw1⟩ := unhide HB _ b1
  clear KM HW
  go_wp2_with fail
  refine (unhide KF _ hw1).mono ?_
  rintro e W2 ⟨rfl, b2⟩
  have b3 := bw_tr b1 b2
  clear c0 KF b2
  obtain ⟨c0, -, hw3⟩ := unhide HB _ b3
  go_wp2_with fail
  refine (unhide KB _ hw3).mono ?_
  rintro e W3 ⟨rm, rfl, hrm, b4⟩
  have b5 := bw_tr b3 b4
  obtain ⟨ma, mcc, hme⟩ := own_slice hrm
  rw [← unhide HML] at hme
  subst hme
  clear c0 KB b4 hrm b3 b1 hw1 hw3
  obtain ⟨c0, -, hw5⟩ := unhide HB _ b5
  go_wp2_with fail
  refine (unhide KT _ hw5).mono ?_
  rintro e W4 ⟨rr, us0, rfl, hO0, b6⟩
  have b7 := bw_tr b5 b6
  obtain ⟨ra0, rc0, hre0⟩ := own_slice hO0.row
  rw [← unhide HN] at hre0
  subst hre0
  have hDV0 : Hid (DV W0 (W4.alloc (.cells #[.slice ra0 mn rc0] 24)) W4.heap.size (.slice ra0 mn rc0) T us0) := DV.new b7 (hO0.mono b5.size)
  obtain ⟨wc, hwc⟩ : ∃ wc, wc = W4.alloc (.cells #[.slice ra0 mn rc0] 24) := ⟨_, rfl⟩
  have HWX := hide hwc
  rw [← hwc] at hDV0
  obtain ⟨nb, hnb⟩ : ∃ nb, nb = W4.heap.size := ⟨_, rfl⟩
  have hTpos : 0 < T.length := by
    have hgn := unhide HG
    have h1 := hgn.2.1
    have h2 := unhide HN
    simp [sizes] at h1
    omega
  obtain ⟨g, mc, hge, hDXT⟩ := (unhide hDV0).dx hTpos
  rw [← unhide HN] at hge hDXT
  cases hge
  generalize rc0 = mc at *
  rw [← hnb] at hDXT
  have HNB : Hid (W0.heap.size ≤ nb) := by unfold Hid; rw [hnb]; exact b7.size
  have hDX : Hid (DX W0 wc nb g mn mc T us0) := hDXT
  clear c0 KT b5 b6 hw5 hO0 hwc m1 m2 m3 b7 hDV0 hDXT i0 i1
  go_upto_region 9 with fail
  rw [← unhide HWX, ← hnb]
  clear HWX hnb
  -- the leaf is blank
  obtain ⟨t2, t3, t4, t5, t6, t7⟩ := unhide HG
  obtain ⟨x2, hx2⟩ : ∃ x2, x2 = 2 * i := ⟨_, rfl⟩
  rw [← hx2] at HBLK HD1
  have hx2l : x2 < T.length := by have := unhide HN; omega
  obtain ⟨u2, hu2, ⟨e0, e1, e2, e3⟩, hfz⟩ := (unhide hDX).at hx2l
  have f0 := hfz (x2 * 4); have f1 := hfz (x2 * 4 + 1); have f2 := hfz (x2 * 4 + 2); have f3 := hfz (x2 * 4 + 3)
  have cN := (unhide hDX).cell
  have hmn15 : mn ≤ 15 := by simp [sizes] at t3; omega
  have p1 : 2 * (i : Int) = (x2 : Int) := by omega
  have p2 : (x2 : Int) < (mn : Int) := by have := unhide HN; omega
  have p3 : (0 : Int) ≤ (x2 : Int) := by omega
  have p4 : (mn : Int) ≤ 15 := by omega
  have hDX4 : Hid (DX W0 ((((wc.setCell ⟨g, x2 * 4, none⟩ (.int .i64 0)).setCell ⟨g, x2 * 4 + 1, none⟩ (.int .i64 0)).setCell ⟨g, x2 * 4 + 2, none⟩ (.int .i64 0)).setCell ⟨g, x2 * 4 + 3, none⟩ (.slice none 0 0)) nb g mn mc (T.set x2 nd0) (us0.set x2 (.slice none 0 0))) := (unhide hDX).set4 hx2l nd0 rfl
  obtain ⟨T1, hT1⟩ : ∃ T1, T1 = T.set x2 nd0 := ⟨_, rfl⟩
  rw [← hT1] at hDX4 HBLK
  have hT1l : T1.length = mn := by rw [hT1, List.length_set, ← unhide HN]
  have HU3 : Hid (∀ k, (ndAt T1 k).un.length ≤ 8) := fun k => by
    rw [hT1, ndAt_set]; split
    · simp [nd0]
    · exact unhide HU2 k
  obtain ⟨U, hU⟩ : ∃ U, U = upN n i := ⟨_, rfl⟩
  rw [← hU] at HBLK HD1 t5 t6 t7
  have HN1 := hide (And.intro hT1l (And.intro t2 (And.intro t3 (And.intro t5 t6))))
  clear hDX hT1 hT1l t2 t3 t4 t5 t6 hx2l hu2 hfz hx2 hU hTpos HG HU2
  obtain ⟨c0, -, -⟩ := unhide HB _ (unhide hDX4).bel
  go_upto_region 10 with fail
  generalize ((((wc.setCell ⟨g, x2 * 4, none⟩ (.int .i64 0)).setCell ⟨g, x2 * 4 + 1, none⟩ (.int .i64 0)).setCell ⟨g, x2 * 4 + 2, none⟩ (.int .i64 0)).setCell ⟨g, x2 * 4 + 3, none⟩ (.slice none 0 0)) = W5 at *
  generalize us0.set x2 (.slice none 0 0) = us4 at *
  clear e0 e1 e2 e3 f0 f1 f2 f3 cN
  obtain ⟨M, hM⟩ : ∃ M, M = U.length := ⟨_, rfl⟩
  have HM := hide hM
  rw [← hM] at t7
  clear hM
  go_wp2_with fail
  refine (unhide KL W5).mono ?_
  rintro e W5b ⟨rfl, y4⟩
  have hDX4b := hide ((unhide hDX4).bw y4)
  have KD := hide (rdirect_any ((x2 : Nat) : Int) ((n : Nat) : Int) W5b)
  rw [unhide HD1] at KD
  clear c0 hDX4 y4 KL
  go_wp2_with fail
  refine (unhide KD).mono ?_
  rintro e W6 ⟨rv, rfl, hrv, y5⟩
  have hDX5 := hide ((unhide hDX4b).bw y5)
  obtain ⟨ra, rc, hre⟩ := own_slice hrv
  rw [List.length_map, ← unhide HM] at hre
  subst hre
  have HRV : Hid (Ints W5b.heap.size W6 (.slice ra M rc) (U.map (fun (x : Nat) => (x : Int)))) := hrv
  clear KD hDX4b hrv y5 p2 p3
  go_wp2_with fail
  go_loopw [9] (fun iv wr => ∃ (j : Nat) (us' : List Value), iv = .int .i64 (j : Int) ∧ j ≤ M ∧ Hid (DX W0 wr nb g mn mc (onAll (fun _ => nd0) (U.take j) T1) us') ∧ Hid (Ints W5b.heap.size wr (.slice ra M rc) (U.map (fun (x : Nat) => (x : Int))))) (fun iv _ => (M - (intOf iv)).toNat)
  case atStart => exact ⟨0, us4, rfl, by omega, by rw [List.take_zero, onAll_nil]; exact hDX5, HRV⟩
  case round =>
    clear HRV hDX5
    obtain ⟨j, us', rfl, hjM, hDX, hRV⟩ := hrel
    by_cases hlt : j < M
    · obtain ⟨x, hx⟩ : ∃ x, U[j]? = some x := ⟨_, List.getElem?_eq_getElem (by have := unhide HM; omega)⟩
      have hxm : x ∈ U := List.mem_of_getElem? hx
      obtain ⟨gu, ou, cu, hue, hcu⟩ := (unhide hRV).nums.open (by simp; have := unhide HM; omega)
      rw [List.length_map, ← unhide HM] at hue
      cases hue
      have k1 : wr.cell? ⟨gu, ou + j, none⟩ = some (.int .i64 (x : Int)) := hcu j (x : Int) (by simp [hx])
      obtain ⟨t1, t2, t3, t4, t5⟩ := unhide HN1
      have ht5 := t5 x hxm
      have hTl : (onAll (fun _ => nd0) (U.take j) T1).length = mn := by rw [onAll_len, t1]
      have hsn : Hid (onAll (fun _ => nd0) (U.take (j + 1)) T1 = (onAll (fun _ => nd0) (U.take j) T1).set x nd0) := by
        unfold Hid; rw [List.take_add_one, hx]; show onAll _ (U.take j ++ [x]) _ = _; rw [onAll_snoc]
      have hxl : x < (onAll (fun _ => nd0) (U.take j) T1).length := by omega
      have bd : Below wr.heap.size wr wr.drew := (Below.refl _ _).drew
      have hDXd := (unhide hDX).bw bd
      obtain ⟨u2, hu2, ⟨e0, e1, e2, e3⟩, hfz⟩ := hDXd.at hxl
      have f0 := hfz (x * 4); have f1 := hfz (x * 4 + 1); have f2 := hfz (x * 4 + 2); have f3 := hfz (x * 4 + 3)
      obtain ⟨u2w, hu2w, ⟨e0w, e1w, e2w, e3w⟩, hfzw⟩ := (unhide hDX).at hxl
      have f0w := hfzw (x * 4); have f1w := hfzw (x * 4 + 1); have f2w := hfzw (x * 4 + 2); have f3w := hfzw (x * 4 + 3)
      have cN := (unhide hDX).cell
      have hgn : nb ≠ g := by rintro rfl; exact (unhide hDX).notin (by simp)
      have hgu : gu ≠ g := by
        rintro rfl
        exact own_apart (unhide hRV) (unhide hDX).tr.row (show (3 : Nat) ≠ 95 by decide) (k := gu) (own_blk (unhide hRV)) rfl
      have S0 : wr.drew.cell? ⟨nb, 0, none⟩ = some (.slice (some ⟨g, 0, none⟩) mn mc) ∧ wr.drew.cell? ⟨gu, ou + j, none⟩ = some (.int .i64 (x : Int)) := ⟨cN, k1⟩
      have S1 : ((((wr.drew.setCell ⟨g, x * 4, none⟩ (.int .i64 0)).setCell ⟨g, x * 4 + 1, none⟩ (.int .i64 0)).setCell ⟨g, x * 4 + 2, none⟩ (.int .i64 0)).setCell ⟨g, x * 4 + 3, none⟩ (.slice none 0 0)).cell? ⟨nb, 0, none⟩ = some (.slice (some ⟨g, 0, none⟩) mn mc) ∧ ((((wr.drew.setCell ⟨g, x * 4, none⟩ (.int .i64 0)).setCell ⟨g, x * 4 + 1, none⟩ (.int .i64 0)).setCell ⟨g, x * 4 + 2, none⟩ (.int .i64 0)).setCell ⟨g, x * 4 + 3, none⟩ (.slice none 0 0)).cell? ⟨gu, ou + j, none⟩ = some (.int .i64 (x : Int)) := by
        rw [cell_set_other hgn, cell_set_other hgn, cell_set_other hgn, cell_set_other hgn, cell_set_other hgu, cell_set_other hgu, cell_set_other hgu, cell_set_other hgu]; exact S0
      have hDX9 : Hid (DX W0 ((((wr.setCell ⟨g, x * 4, none⟩ (.int .i64 0)).setCell ⟨g, x * 4 + 1, none⟩ (.int .i64 0)).setCell ⟨g, x * 4 + 2, none⟩ (.int .i64 0)).setCell ⟨g, x * 4 + 3, none⟩ (.slice none 0 0)).drew nb g mn mc ((onAll (fun _ => nd0) (U.take j) T1).set x nd0) (us'.set x (.slice none 0 0))) := ((unhide hDX).set4 hxl nd0 rfl).bw ((Below.refl _ _).drew)
      have hRV9 : Hid (Ints W5b.heap.size ((((wr.setCell ⟨g, x * 4, none⟩ (.int .i64 0)).setCell ⟨g, x * 4 + 1, none⟩ (.int .i64 0)).setCell ⟨g, x * 4 + 2, none⟩ (.int .i64 0)).setCell ⟨g, x * 4 + 3, none⟩ (.slice none 0 0)).drew (.slice (some ⟨gu, ou, none⟩) M rc) (U.map (fun (x : Nat) => (x : Int)))) := by
        have h9 := unhide hRV
        exact (own_keep h9 (fun k hk => (fr_set4 wr g (x * 4) _ _ _ _).block k (World.ownsRow.lt h9 k hk).2 (by simp; rintro rfl; exact own_apart h9 (unhide hDX).tr.row (show (3 : Nat) ≠ 95 by decide) hk rfl))).drew
      have q1 : (j : Int) < (M : Int) := by omega
      have q0 : (0 : Int) ≤ (j : Int) := by omega
      have p2 : (x : Int) < (mn : Int) := by omega
      have p3 : (0 : Int) ≤ (x : Int) := by omega
      have hM3 : (M : Int) ≤ 3 := by omega
      generalize onAll (fun _ => nd0) (U.take j) T1 = Tj at *
      clear hcu hx hxm t1 t2 t3 t4 t5 ht5 hTl hxl hfz hu2 hDX hRV hDXd bd hfzw hu2w
      go_wp2_with fail
      first
      | go_region_held3 (fun w' : World => w'.cell? ⟨nb, 0, none⟩ = some (.slice (some ⟨g, 0, none⟩) mn mc) ∧ w'.cell? ⟨gu, ou + j, none⟩ = some (.int .i64 (x : Int))) (first | with_reducible exact S0 | exact S1) (fail)
      | fail
      all_goals
        go_wp2_with fail
        generalize ((((wr.setCell ⟨g, x * 4, none⟩ (.int .i64 0)).setCell ⟨g, x * 4 + 1, none⟩ (.int .i64 0)).setCell ⟨g, x * 4 + 2, none⟩ (.int .i64 0)).setCell ⟨g, x * 4 + 3, none⟩ (.slice none 0 0)).drew = W9 at *
        go_roundw
        case rel => exact ⟨j + 1, _, by go_num, by omega, by rw [unhide hsn]; exact hDX9, hRV9⟩
        case measure => simp [intOf]; omega
    · obtain rfl : j = M := by omega
      have e9 : U.take j = U := List.take_of_length_le (by have := unhide HM; omega)
      rw [e9, ← unhide HBLK] at hDX
      have HBL : Hid ((blk i T).length = mn ∧ mn = 2 * n - 1 ∧ n ∈ sizes ∧ (∀ y ∈ blk i T, y.un.length ≤ 8)) := by
        obtain ⟨t1, t2, t3, t4, t5⟩ := unhide HN1
        have hl : (blk i T).length = mn := by rw [unhide HBLK, onAll_len, t1]
        refine ⟨hl, t2, t3, fun y hy => ?_⟩
        obtain ⟨k, hk⟩ := List.mem_iff_getElem?.1 hy
        have hlt := (List.getElem?_eq_some_iff.1 hk).1
        rw [ndAt_of hlt] at hk
        cases hk
        rw [unhide HBLK, ndAt_onAll _ _ _ _ t4]
        split
        · simp [nd0]
        · exact unhide HU3 k
      generalize hbk : blk i T = Bt at *
      clear hRV HBLK HN1 HU3 HM HD1 hlt e9 hbk
      have HST : Hid (n ∈ sizes ∧ needF 4 Bt n = need Bt ∧ n < 16) := by
        obtain ⟨h1, h2, h3, h4⟩ := unhide HBL
        have hn : nlv Bt = n := by unfold nlv; simp [sizes] at h3; omega
        refine ⟨h3, by unfold need; rw [hn], by simp [sizes] at h3; omega⟩
      have hDXs : Hid (DX W0 wr nb g mn mc (Bt.take mn) us') := by unfold Hid; rw [List.take_of_length_le (by have := (unhide HBL).1; omega)]; exact unhide hDX
      clear hDX
      go_wp2_with fail
      rename World => wo
      go_loopw [62] (fun _ wr => ∃ (k m f : Nat) (us'' : List Value), Hid (m = 2 * k - 1 ∧ k ∈ sizes ∧ k < 2 ^ f ∧ needF f Bt k = need Bt ∧ m ≤ mn) ∧ Hid (DX W0 wr nb g m mc (Bt.take m) us'')) (fun _ wr => lenW nb wr)
      case atStart => exact ⟨n, mn, 4, us', ⟨(unhide HBL).2.1, (unhide HST).1, (unhide HST).2.2, (unhide HST).2.1, Nat.le_refl _⟩, hDXs⟩
      case round =>
        clear HST hDXs
        obtain ⟨k, m, f, us'', hk, hDX⟩ := hrel
        have hkm := unhide hk
        have hk8 : k ≤ 8 := by have := hkm.2.1; simp [sizes] at this; omega
        have hk1 : 1 ≤ k := by have := hkm.2.1; simp [sizes] at this; omega
        have hm15 : m ≤ 15 := by omega
        have HTK : Hid ((Bt.take m).length = m ∧ ∀ y ∈ Bt.take m, y.un.length ≤ 8) := by
          refine ⟨by rw [List.length_take]; have := (unhide HBL).1; omega, fun y hy => (unhide HBL).2.2.2 y (List.mem_of_mem_take hy)⟩
        have KLv : Hid (∀ W, Calls Tryz.prog 48 #[.agg #[.slice (some ⟨g, 0, none⟩) m mc]] W fun e w' => e = .returned (.int .i64 (k : Int)) ∧ Below W.heap.size W w') := fun W => by
          have := rleaves_any (some ⟨g, 0, none⟩) m mc W (by omega)
          rw [hkm.1, rlv_of hkm.2.1, ← hkm.1] at this
          exact this
        have HX : Hid (∀ W, Below wr.heap.size wr W → W.cell? ⟨nb, 0, none⟩ = some (.slice (some ⟨g, 0, none⟩) m mc) ∧ W.frozen? ⟨nb, 0, none⟩ = false ∧ DX W0 W nb g m mc (Bt.take m) us'') := fun W hW => by
          have h1 := (unhide hDX).bw hW
          exact ⟨h1.cell, frozen_of_blk0 h1.box 0, h1⟩
        have HLW : Hid (lenW nb wr = m) := by unfold Hid lenW; rw [(unhide hDX).cell]
        have hcap : m ≤ mc := by
          obtain ⟨g', cap', e', -, q, -⟩ := own_open (unhide hDX).tr.row (by rw [(unhide HTK).1]; omega)
          rw [(unhide HTK).1] at e' q
          cases e'
          exact q
        have x0 : Below wr.heap.size wr wr := Below.refl _ _
        have x0d : Below wr.heap.size wr wr.drew := x0.drew
        have S0 := (unhide HX _ x0).1
        have S0d := (unhide HX _ x0d).1
        have hkI : (k : Int) ≤ 8 := by omega
        have hmI : (m : Int) ≤ 15 := by omega
        by_cases hk2 : 1 < k
        · obtain ⟨k2, hk2e⟩ : ∃ k2, k2 = k / 2 := ⟨_, rfl⟩
          have KSm : Hid (∀ W, Below wr.heap.size wr W → Calls Tryz.prog 52 #[.agg #[.slice (some ⟨g, 0, none⟩) m mc], .int .i64 (k2 : Int)] W fun e w' => e = .returned (.bool (anyM Bt k2 k)) ∧ Below W.heap.size W w') := fun W hW => by
            have hT := unhide HTK
            have htr := (unhide HX W hW).2.2.tr.trd (by rw [hT.1]; omega) (fun y hy => by have := hT.2 y hy; omega)
            have hnl : nlv (Bt.take m) = k := by unfold nlv; rw [hT.1]; omega
            have := rsome_any htr (by rw [hT.1]; omega) k2 (by rw [hnl]; omega)
            rw [hnl, anyM_take (by omega)] at this
            exact this
          have q2 : (k : Int) / 2 = (k2 : Int) := by omega
          have q1 : (1 : Int) < (k : Int) := by omega
          have q3 : Int.tdiv (k : Int) 2 = (k2 : Int) := by rw [Int.tdiv_eq_ediv_of_nonneg (by omega)]; exact q2
          have q8 : (k2 : Int) ≤ 4 := by omega
          have q4 : IntKind.i64.wrap (k2 : Int) = (k2 : Int) := by rw [IntKind.wrap_i64]; omega
          have q6 : (0 : Int) ≤ (k : Int) := by omega
          have q7 : (0 : Int) ≤ (k2 : Int) := by omega
          obtain ⟨m2, hm2⟩ : ∃ m2, m2 = 2 * k2 - 1 := ⟨_, rfl⟩
          have HNEED : Hid ((anyM Bt k2 k = true → need Bt = k) ∧ (anyM Bt k2 k = false → m2 = 2 * k2 - 1 ∧ k2 ∈ sizes ∧ k2 < 2 ^ (f - 1) ∧ needF (f - 1) Bt k2 = need Bt ∧ m2 ≤ mn)) := by
            obtain ⟨f', hf'⟩ : ∃ f', f = f' + 1 := ⟨f - 1, by have h := hkm.2.2.1; cases f with | zero => simp at h; omega | succ f => rfl⟩
            have hn := hkm.2.2.2.1
            rw [hf'] at hn
            unfold needF at hn
            rw [← hk2e] at hn
            refine ⟨fun h => ?_, fun h => ?_⟩
            · rw [if_neg (by simp [h])] at hn; exact hn.symm
            · rw [if_pos ⟨hk2, h⟩] at hn
              refine ⟨hm2, ?_, ?_, by rw [hf', Nat.add_sub_cancel]; exact hn, by omega⟩
              · have h1 := hkm.2.1
                simp [sizes] at h1 ⊢
                omega
              · have h1 := hkm.2.2.1
                rw [hf', Nat.pow_succ] at h1
                rw [hf', Nat.add_sub_cancel]
                omega
          have q5 : (k : Int) - 1 = (m2 : Int) := by have h1 := hkm.2.1; simp [sizes] at h1; omega
          have HM2 : Hid (m2 ≤ m ∧ m2 < m) := by have h1 := hkm.2.1; simp [sizes] at h1; exact ⟨by omega, by omega⟩
          have hsl : ∀ W, (Instr.slice 22 (.slice (some ⟨g, 0, none⟩) m mc) none (some (.int .i64 (m2 : Int))) none).run Tryz.prog W = .ok (.slice (some ⟨g, 0, none⟩) m2 mc) W := fun W => slice_roomNode W g m mc m2 (by have := unhide HM2; omega)
          have q9 : IntKind.i64.wrap (m2 : Int) = (m2 : Int) := by have := unhide HM2; rw [IntKind.wrap_i64]; omega
          have q10 : (m2 : Int) ≤ (mc : Int) := by have := unhide HM2; omega
          have q11 : (0 : Int) ≤ (m2 : Int) := by omega
          clear hk2e hm2 hk2
          generalize anyM Bt k2 k = pa at *
          clear hkm hcap
          go_wp2_with fail
          first
          | go_region_held3 (fun w' : World => w'.cell? ⟨nb, 0, none⟩ = some (.slice (some ⟨g, 0, none⟩) m mc)) (first | with_reducible exact S0 | with_reducible exact S0d | with_reducible exact S1 | with_reducible exact S2 | with_reducible exact S3) (first
              | (go_at_call 52; refine (unhide KSm _ x2).mono ?_; rintro e z3 ⟨rfl, y3⟩; have x3 := bw_tr x2 y3; have S3 := (unhide HX _ x3).1)
              | (go_at_call 48; refine (unhide KLv _).mono ?_; rintro e z2 ⟨rfl, y2⟩; have x2 := bw_tr x1 y2; have S2 := (unhide HX _ x2).1)
              | (go_at_call 48; refine (unhide KLv _).mono ?_; rintro e z1 ⟨rfl, y1⟩; have x1 := bw_tr x0d y1; have S1 := (unhide HX _ x1).1) | fail)
          | fail
          all_goals
            clear S0 S0d S1 S2 y1 y2 y3 x1 x2 x0 x0d KSm
            cases pa
            · have hnx := hide ((unhide HNEED).2 rfl)
              have c3 := S3
              have f3 := (unhide HX _ x3).2.1
              have HXZ : Hid (∀ z5, Below z3.drew.heap.size z3.drew z5 → (z5.cell? ⟨nb, 0, none⟩ = some (.slice (some ⟨g, 0, none⟩) m mc) ∧ z5.frozen? ⟨nb, 0, none⟩ = false) ∧ DX W0 (z5.setCell ⟨nb, 0, none⟩ (.slice (some ⟨g, 0, none⟩) m2 mc)) nb g m2 mc (Bt.take m2) (us''.take m2) ∧ lenW nb (z5.setCell ⟨nb, 0, none⟩ (.slice (some ⟨g, 0, none⟩) m2 mc)) = m2) := fun z5 y5 => by
                have x5 := bw_tr x3 (bw_tr ((Below.refl _ _).drew) y5)
                obtain ⟨h1, h2, h3⟩ := unhide HX _ x5
                have h4 := h3.cut (unhide HNB) (unhide HM2).1
                rw [List.take_take, Nat.min_eq_left (unhide HM2).1] at h4
                exact ⟨⟨h1, h2⟩, h4, by unfold lenW; rw [h4.cell]⟩
              clear HNEED HX hDX hk S3
              go_wp2_with fail
              go_region_law (first | (go_simp; go_wp2_with (first | (go_at_call 48; refine (unhide KLv _).mono ?_; rintro e z5 ⟨rfl, y5⟩; have h5 := unhide HXZ _ y5; have h51 := h5.1.1; have h52 := h5.1.2))))
              all_goals
                have HZ5 := hide h5.2
                clear h5 y5 HXZ
                go_wp2_with fail
                go_roundw
                case rel => exact ⟨k2, m2, f - 1, us''.take m2, hnx, (unhide HZ5).1⟩
                case measure => rw [(unhide HZ5).2, unhide HLW]; exact (unhide HM2).2
            · have hneed := (unhide HNEED).1 rfl
              obtain ⟨zx, hzx⟩ : ∃ zx, zx = z3 := ⟨_, rfl⟩
              have hDXz := hide (unhide HX _ x3).2.2
              rw [← hzx] at hDXz ⊢
              clear hzx HNEED hsl S3 HX hDX x3
              have hTk := unhide HTK
              have cX := (unhide hDXz).cell
              have htr : Trd zx (.slice (some ⟨g, 0, none⟩) m mc) (Bt.take m) := (unhide hDXz).tr.trd (by rw [hTk.1]; omega) (fun y hy => by have := hTk.2 y hy; omega)
              have KT2 := hide (rtwin_any htr (by rw [hTk.1]; omega) (fun y hy => by have := hTk.2 y hy; omega))
              obtain ⟨-, ⟨kR, -, -⟩, -⟩ := unhide HB _ (unhide hDXz).bel
              have HBelz := hide (unhide hDXz).bel
              have HRES : Hid (Bt.take m = remT T mm) := by
                unfold Hid
                rw [unhide HREM, hneed, ← (unhide hk).1, fit_take (by have := (unhide HBL).1; have := (unhide hk).2.2.2.2; omega)]
              clear htr hTk hDXz hneed
              go_wp2_with fail
              refine (unhide KT2).mono ?_
              rintro e W9 ⟨r9, us9, rfl, hO9, b9⟩
              rw [unhide HRES] at hO9
              obtain ⟨r9a, r9c, hr9e⟩ := own_slice hO9.row
              subst hr9e
              obtain ⟨RL, hRL⟩ : ∃ RL, RL = (remT T mm).length := ⟨_, rfl⟩
              rw [← hRL] at hO9 ⊢
              obtain ⟨-, ⟨k9, c9, f9⟩, hw9⟩ := unhide HB _ (bw_tr (unhide HBelz) b9)
              obtain ⟨WZ, hWZ⟩ : ∃ WZ, WZ = W9.setCell ⟨w.heap.size + 1, 0, none⟩ (.slice r9a RL r9c) := ⟨_, rfl⟩
              have z0 : WZ.cell? ⟨w.heap.size + 1, 0, none⟩ = some (.slice r9a RL r9c) := cell_of_blk (by rw [hWZ, setCell_blk k9]) rfl
              have HF : Hid (OTr w.heap.size WZ (.slice r9a RL r9c) (remT T mm) us9 ∧ Below w.heap.size w WZ) := by
                have hs := unhide HS0
                have hbz := (unhide HBelz).size
                refine ⟨(hO9.keepB (fun q hq => by rw [hWZ]; exact Below.heap_setCell _ _ _ _ (by simp; omega))).mono (by omega), by rw [hWZ]; exact hw9.setCell (by simp) _⟩
              have HZ := hide hWZ
              clear hWZ hO9 hRL k9 hw9 b9 KT2 cX kR
              go_wp2_with fail
              rw [← unhide HZ]
              exact bodyPost_ret (v := .tuple #[.agg #[.slice r9a RL r9c], .int .i64 0]) (by simp [results, Tryz.results27, go_sem, z0]) rfl ⟨_, us9, rfl, (unhide HF).1, (unhide HF).2⟩
        · obtain rfl : k = 1 := by omega
          have hneed : need Bt = 1 := by
            have hn := hkm.2.2.2.1
            cases f with
            | zero => exact hn.symm
            | succ f => unfold needF at hn; simpa using hn.symm
          clear hkm hcap hk2
          go_wp2_with fail
          first
          | go_region_with (first | (go_at_call 48; refine (unhide KLv _).mono ?_; rintro e z1 ⟨rfl, y1⟩; have x1 := bw_tr x0d y1; have S1 := (unhide HX _ x1).1) | fail)
          | fail
          all_goals
            clear S0 S0d y1 x0 x0d
            obtain ⟨zx, hzx⟩ : ∃ zx, zx = z1 := ⟨_, rfl⟩
            have hDXz := hide (unhide HX _ x1).2.2
            rw [← hzx] at hDXz ⊢
            clear hzx S1 HX hDX x1
            have hTk := unhide HTK
            have cX := (unhide hDXz).cell
            have htr : Trd zx (.slice (some ⟨g, 0, none⟩) m mc) (Bt.take m) := (unhide hDXz).tr.trd (by rw [hTk.1]; omega) (fun y hy => by have := hTk.2 y hy; omega)
            have KT2 := hide (rtwin_any htr (by rw [hTk.1]; omega) (fun y hy => by have := hTk.2 y hy; omega))
            obtain ⟨-, ⟨kR, -, -⟩, -⟩ := unhide HB _ (unhide hDXz).bel
            have HBelz := hide (unhide hDXz).bel
            have HRES : Hid (Bt.take m = remT T mm) := by
              unfold Hid
              rw [unhide HREM, hneed, ← (unhide hk).1, fit_take (by have := (unhide HBL).1; have := (unhide hk).2.2.2.2; omega)]
            clear htr hTk hDXz hneed
            go_wp2_with fail
            refine (unhide KT2).mono ?_
            rintro e W9 ⟨r9, us9, rfl, hO9, b9⟩
            rw [unhide HRES] at hO9
            obtain ⟨r9a, r9c, hr9e⟩ := own_slice hO9.row
            subst hr9e
            obtain ⟨RL, hRL⟩ : ∃ RL, RL = (remT T mm).length := ⟨_, rfl⟩
            rw [← hRL] at hO9 ⊢
            obtain ⟨-, ⟨k9, c9, f9⟩, hw9⟩ := unhide HB _ (bw_tr (unhide HBelz) b9)
            obtain ⟨WZ, hWZ⟩ : ∃ WZ, WZ = W9.setCell ⟨w.heap.size + 1, 0, none⟩ (.slice r9a RL r9c) := ⟨_, rfl⟩
            have z0 : WZ.cell? ⟨w.heap.size + 1, 0, none⟩ = some (.slice r9a RL r9c) := cell_of_blk (by rw [hWZ, setCell_blk k9]) rfl
            have HF : Hid (OTr w.heap.size WZ (.slice r9a RL r9c) (remT T mm) us9 ∧ Below w.heap.size w WZ) := by
              have hs := unhide HS0
              have hbz := (unhide HBelz).size
              refine ⟨(hO9.keepB (fun q hq => by rw [hWZ]; exact Below.heap_setCell _ _ _ _ (by simp; omega))).mono (by omega), by rw [hWZ]; exact hw9.setCell (by simp) _⟩
            have HZ := hide hWZ
            clear hWZ hO9 hRL k9 hw9 b9 KT2 cX kR
            go_wp2_with fail
            rw [← unhide HZ]
            exact bodyPost_ret (v := .tuple #[.agg #[.slice r9a RL r9c], .int .i64 0]) (by simp [results, Tryz.results27, go_sem, z0]) rfl ⟨_, us9, rfl, (unhide HF).1, (unhide HF).2⟩
end Go.Proofs.YtpgppnmobbgefaaGreatDoor

/- The contract of the document's Remove, whatever comes of it. -/
namespace Go.Proofs.YtpgppnmobbgefaaGreatDoor
open Go.RowKit Go.Maps

set_option maxRecDepth 100000 in
set_option maxHeartbeats 4000000 in
theorem rrem_err {w : World} {v : Value} {T : List Nd} (h : Trd w v T) (mm : Int) (hE : remE T mm ≠ 0) :
    Calls Tryz.prog 27 #[.agg #[v], .int .i64 mm] w fun e w' => e = .returned (.tuple #[.agg #[.slice none 0 0], .int .i64 (remE T mm)]) ∧ Below w.heap.size w w' := by
  obtain ⟨W0, hW0⟩ : ∃ W0, W0 = (bxw w v).alloc (.cells #[.slice none 0 0] 24) := ⟨_, rfl⟩
  have hb0 : Below w.heap.size w W0 := by rw [hW0]; exact (bwA _ _).alloc (by simp) _
  have hs0 : W0.heap.size = w.heap.size + 2 := by rw [hW0]; simp
  have HB : Hid (∀ W, Below W0.heap.size W0 W → W.cell? ⟨w.heap.size, 0, none⟩ = some v ∧ (W.cell? ⟨w.heap.size + 1, 0, none⟩ = some (.slice none 0 0) ∧ W.frozen? ⟨w.heap.size + 1, 0, none⟩ = false ∧ (W.setCell ⟨w.heap.size + 1, 0, none⟩ (.slice none 0 0)).cell? ⟨w.heap.size + 1, 0, none⟩ = some (.slice none 0 0)) ∧ Below w.heap.size w W) := fun W hW => by
    have e0 : W.heap[w.heap.size]? = some (.cells #[v] 24 (0, 0)) := by
      rw [hW.block _ (by omega), hW0, Below.heap_alloc _ _ _ (by simp)]; exact heap_alloc_new _ _
    have e2 : W.heap[w.heap.size + 1]? = some (.cells #[.slice none 0 0] 24 (0, 0)) := by
      rw [hW.block _ (by omega), hW0]
      have := heap_alloc_new (bxw w v) (.cells #[.slice none 0 0] 24)
      simpa using this
    exact ⟨cell_of_blk e0 rfl, ⟨cell_of_blk e2 rfl, by simp [World.frozen?, e2], cell_set_same (cell_of_blk e2 rfl) _⟩, bw_tr hb0 hW⟩
  have KM : Hid (∀ W, Below w.heap.size w W → Calls Tryz.prog 15 #[.agg #[v]] W fun e w' => e = .returned (.int .i64 (if mayB T = true then 0 else 1)) ∧ Below W.heap.size W w') := fun W hW => rcheck_any (h.bw hW)
  have KF : Hid (mayB T = true → ∀ W, Below w.heap.size w W → Calls Tryz.prog 17 #[.agg #[v], .int .i64 mm] W fun e w' => e = .returned (.int .i64 (fnd T mm)) ∧ Below W.heap.size W w') := fun q W hW => by have := rfind_any (h.bw hW) mm; rw [if_pos q] at this; exact this
  have KB : Hid (mayB T = true → ∀ W, Below w.heap.size w W → Calls Tryz.prog 14 #[.agg #[v]] W fun e w' => ∃ r, e = .returned r ∧ Ints W.heap.size w' r (mems T) ∧ Below W.heap.size W w') := fun q W hW => by have := rmembers_any (h.bw hW); rw [if_pos q] at this; exact this
  have HW : Hid (W0 = (w.alloc (.cells #[v] 24)).alloc (.cells #[.slice none 0 0] 24)) := hW0
  obtain ⟨E, hEE⟩ : ∃ E, E = remE T mm := ⟨_, rfl⟩
  rw [← hEE] at hE ⊢
  unfold remE at hEE
  have HE := hide hEE
  have HE0 := hide hE
  have HBS : Hid (∀ W, Below W0.heap.size W0 W → Below w.heap.size w (W.setCell ⟨w.heap.size + 1, 0, none⟩ (.slice none 0 0))) := fun W hW => (unhide HB _ hW).2.2.setCell (by simp) _
  clear h hEE hE hW0 hs0
  generalize mayB T = p at *
  generalize fnd T mm = fm at *
  generalize mems T = ml at *
  cases p
  · obtain rfl : E = 1 := by rw [unhide HE]; simp
    clear KF KB HE
    go_enter Tryz.func27, Tryz.ntmps27
    go_wp2_with fail
    rw [← unhide HW]
    refine (unhide KM _ hb0).mono ?_
    rintro e W1 ⟨rfl, b1⟩
    obtain ⟨c0, ⟨c4, c5, c6⟩, hw1⟩ := unhide HB _ b1
    have c7 := unhide HBS _ b1
    clear KM HW
    go_wp2
    generalize W1.setCell ⟨w.heap.size + 1, 0, none⟩ (.slice none 0 0) = WZ at *
    exact bodyPost_ret (v := .tuple #[.agg #[.slice none 0 0], .int .i64 1]) (by simp [results, Tryz.results27, go_sem, c6]) rfl ⟨rfl, c7⟩
  · have KF2 := hide (unhide KF rfl)
    have KB2 := hide (unhide KB rfl)
    have HE2 : Hid (E = if fm < 0 then 7 else if ml.length = 1 then 9 else 0) := by unfold Hid; rw [unhide HE]; simp
    clear KF KB HE
    by_cases n1 : fm < 0
    · obtain rfl : E = 7 := by rw [unhide HE2, if_pos n1]
      clear HE2
      go_enter Tryz.func27, Tryz.ntmps27
      go_wp2_with fail
      rw [← unhide HW]
      refine (unhide KM _ hb0).mono ?_
      rintro e W1 ⟨rfl, b1⟩
      obtain ⟨c0, -, hw1⟩ := unhide HB _ b1
      clear KM HW
      go_wp2_with fail
      refine (unhide KF2 _ hw1).mono ?_
      rintro e W2 ⟨rfl, b2⟩
      have b3 := bw_tr b1 b2
      clear c0
      obtain ⟨c0, ⟨c4, c5, c6⟩, hw3⟩ := unhide HB _ b3
      have c7 := unhide HBS _ b3
      go_wp2
      generalize W2.setCell ⟨w.heap.size + 1, 0, none⟩ (.slice none 0 0) = WZ at *
      exact bodyPost_ret (v := .tuple #[.agg #[.slice none 0 0], .int .i64 7]) (by simp [results, Tryz.results27, go_sem, c6]) rfl ⟨rfl, c7⟩
    · have n1' : decide (fm < 0) = false := decide_eq_false n1
      have h8 : ml.length = 1 := by
        apply Decidable.byContradiction; intro c
        exact unhide HE0 (by rw [unhide HE2, if_neg n1, if_neg c])
      obtain rfl : E = 9 := by rw [unhide HE2, if_neg n1, if_pos h8]
      have H8 := hide h8
      clear HE2 h8
      go_enter Tryz.func27, Tryz.ntmps27
      go_wp2_with fail
      rw [← unhide HW]
      refine (unhide KM _ hb0).mono ?_
      rintro e W1 ⟨rfl, b1⟩
      obtain ⟨c0, -, hw1⟩ := unhide HB _ b1
      clear KM HW
      go_wp2_with fail
      refine (unhide KF2 _ hw1).mono ?_
      rintro e W2 ⟨rfl, b2⟩
      have b3 := bw_tr b1 b2
      clear c0
      obtain ⟨c0, -, hw3⟩ := unhide HB _ b3
      go_wp2_with fail
      refine (unhide KB2 _ hw3).mono ?_
      rintro e W3 ⟨rm, rfl, hrm, b4⟩
      obtain ⟨ma, mc, hme⟩ := own_slice hrm
      rw [unhide H8] at hme
      subst hme
      have b5 := bw_tr b3 b4
      clear c0 hrm
      obtain ⟨c0, ⟨c4, c5, c6⟩, hw5⟩ := unhide HB _ b5
      have c7 := unhide HBS _ b5
      go_wp2
      generalize W3.setCell ⟨w.heap.size + 1, 0, none⟩ (.slice none 0 0) = WZ at *
      exact bodyPost_ret (v := .tuple #[.agg #[.slice none 0 0], .int .i64 9]) (by simp [results, Tryz.results27, go_sem, c6]) rfl ⟨rfl, c7⟩
theorem rrem_any {w : World} {v : Value} {T : List Nd} (h : Trd w v T) (mm : Int) :
    Calls Tryz.prog 27 #[.agg #[v], .int .i64 mm] w fun e w' => ∃ r us, e = .returned (.tuple #[.agg #[r], .int .i64 (remE T mm)]) ∧ OTr w.heap.size w' r (remR T mm) us ∧ Below w.heap.size w w' := by
  by_cases hE : remE T mm = 0
  · refine (rrem_ok h mm hE).mono ?_
    rintro e w' ⟨r, us, h1, h2, h3⟩
    refine ⟨r, us, ?_, ?_, h3⟩
    · rw [h1, hE]
    · unfold remR; rw [if_pos hE]; exact h2
  · refine (rrem_err h mm hE).mono ?_
    rintro e w' ⟨h1, h3⟩
    refine ⟨.slice none 0 0, [], ?_, ?_, h3⟩
    · rw [h1]
    · unfold remR; rw [if_neg hE]; exact otr_nil _ _
end Go.Proofs.YtpgppnmobbgefaaGreatDoor
