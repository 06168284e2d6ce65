/- The contract of Add, whatever comes of it; of New. -/
import Derived.Test.YtpgppnmobbgefaaGreatDoorTrL
namespace Go.Proofs.YtpgppnmobbgefaaGreatDoor
open Go.RowKit Go.Maps

set_option maxRecDepth 100000 in
set_option maxHeartbeats 4000000 in
theorem add_err {w : World} {v : Value} {T : List Nd} (h : Trd w v T) (hT : Tab w) (mm ee pp : Int) (hE : addE T mm ee pp ≠ 0) :
    Calls Tryz.prog 23 #[.agg #[v], .agg #[.int .i64 mm, .int .i64 ee, .int .i64 pp]] w fun e w' => e = .returned (.tuple #[.agg #[.slice none 0 0], .int .i64 0, .int .i64 (addE T mm ee pp)]) ∧ Below w.heap.size w w' := by
  obtain ⟨W0, hW0⟩ : ∃ W0, W0 = ((bxw w v).alloc (.cells #[.int .i64 mm, .int .i64 ee, .int .i64 pp] 75)).alloc (.cells #[.slice none 0 0] 24) := ⟨_, rfl⟩
  have hb0 : Below w.heap.size w W0 := by rw [hW0]; exact ((bwA _ _).alloc (by simp) _).alloc (by simp; omega) _
  have hs0 : W0.heap.size = w.heap.size + 3 := by rw [hW0]; simp
  have HB : Hid (∀ W, Below W0.heap.size W0 W → W.cell? ⟨w.heap.size, 0, none⟩ = some v ∧ (W.cell? ⟨w.heap.size + 1, 0, none⟩ = some (.int .i64 mm) ∧ W.cell? ⟨w.heap.size + 1, 1, none⟩ = some (.int .i64 ee) ∧ W.cell? ⟨w.heap.size + 1, 2, none⟩ = some (.int .i64 pp)) ∧ (W.cell? ⟨w.heap.size + 1 + 1, 0, none⟩ = some (.slice none 0 0) ∧ W.frozen? ⟨w.heap.size + 1 + 1, 0, none⟩ = false ∧ (W.setCell ⟨w.heap.size + 1 + 1, 0, none⟩ (.slice none 0 0)).cell? ⟨w.heap.size + 1 + 1, 0, none⟩ = some (.slice none 0 0)) ∧ Below w.heap.size w W) := fun W hW => by
    have e0 : W.heap[w.heap.size]? = some (.cells #[v] 24 (0, 0)) := by
      rw [hW.block _ (by omega), hW0, Below.heap_alloc _ _ _ (by simp; omega), Below.heap_alloc _ _ _ (by simp)]; exact heap_alloc_new _ _
    have e1 : W.heap[w.heap.size + 1]? = some (.cells #[.int .i64 mm, .int .i64 ee, .int .i64 pp] 75 (0, 0)) := by
      rw [hW.block _ (by omega), hW0, Below.heap_alloc _ _ _ (by simp)]
      have := heap_alloc_new (bxw w v) (.cells #[.int .i64 mm, .int .i64 ee, .int .i64 pp] 75)
      simpa using this
    have e2 : W.heap[w.heap.size + 1 + 1]? = some (.cells #[.slice none 0 0] 24 (0, 0)) := by
      rw [hW.block _ (by omega), hW0]
      have := heap_alloc_new ((bxw w v).alloc (.cells #[.int .i64 mm, .int .i64 ee, .int .i64 pp] 75)) (.cells #[.slice none 0 0] 24)
      simpa using this
    exact ⟨cell_of_blk e0 rfl, ⟨cell_of_blk e1 rfl, cell_of_blk e1 rfl, cell_of_blk e1 rfl⟩, ⟨cell_of_blk e2 rfl, by simp [World.frozen?, e2], cell_set_same (cell_of_blk e2 rfl) _⟩, bw_tr hb0 hW⟩
  have KM : Hid (∀ W, Below w.heap.size w W → Calls Tryz.prog 44 #[.agg #[v]] W fun e w' => e = .returned (.bool (mayB T)) ∧ Below W.heap.size W w') := fun W hW => mayBe_any (h.bw hW) (hT.bw hW)
  have KF : Hid (mayB T = true → ∀ W, Below w.heap.size w W → Calls Tryz.prog 46 #[.agg #[v], .int .i64 mm] W fun e w' => e = .returned (.int .i64 (fnd T mm)) ∧ Below W.heap.size W w') := fun q W hW => find_any (h.bw hW) (mayB_15 q).1 mm
  have KB : Hid (mayB T = true → ∀ W, Below w.heap.size w W → Calls Tryz.prog 155 #[.agg #[v]] W fun e w' => e = .returned (.int .i64 (fb T : Nat)) ∧ Below W.heap.size W w') := fun q W hW => firstBlank_any (h.bw hW) (mayB_15 q).1
  have HW : Hid (W0 = ((w.alloc (.cells #[v] 24)).alloc (.cells #[.int .i64 mm, .int .i64 ee, .int .i64 pp] 75)).alloc (.cells #[.slice none 0 0] 24)) := hW0
  obtain ⟨E, hEE⟩ : ∃ E, E = addE T mm ee pp := ⟨_, rfl⟩
  rw [← hEE] at hE ⊢
  unfold addE at hEE
  have HE := hide hEE
  have HE0 := hide hE
  have HBS : Hid (∀ W, Below W0.heap.size W0 W → Below w.heap.size w (W.setCell ⟨w.heap.size + 1 + 1, 0, none⟩ (.slice none 0 0))) := fun W hW => (unhide HB _ hW).2.2.2.setCell (by simp; omega) _
  clear h hT hEE hE hW0 hs0
  generalize hp : mayB T = p at *
  clear hp
  generalize fnd T mm = fm at *
  generalize fb T = ib at *
  cases p
  · obtain rfl : E = 1 := by rw [unhide HE]; simp
    clear KF KB HE
    go_enter Tryz.func23, Tryz.ntmps23
    go_wp2_with fail
    rw [← unhide HW]
    refine (unhide KM _ hb0).mono ?_
    rintro e W1 ⟨rfl, b1⟩
    obtain ⟨c0, ⟨c1, c2, c3⟩, ⟨c4, c5, c6⟩, hw1⟩ := unhide HB _ b1
    have c7 := unhide HBS _ b1
    clear KM HW
    go_wp2
    generalize W1.setCell ⟨w.heap.size + 1 + 1, 0, none⟩ (.slice none 0 0) = WZ at *
    exact bodyPost_ret (v := .tuple #[.agg #[.slice none 0 0], .int .i64 0, .int .i64 1]) (by simp [results, Tryz.results23, go_sem, c6]) rfl ⟨rfl, c7⟩
  · have KF2 := hide (unhide KF rfl)
    have KB2 := hide (unhide KB rfl)
    clear KF KB
    have hbad : (mm < 0 ∨ ee < 0 ∨ pp < 1) → E = 1 := fun q => by rw [unhide HE]; simp [q]
    by_cases n1 : mm < 0
    · obtain rfl := hbad (Or.inl n1)
      clear HE hbad
      go_enter Tryz.func23, Tryz.ntmps23
      go_wp2_with fail
      rw [← unhide HW]
      refine (unhide KM _ hb0).mono ?_
      rintro e W1 ⟨rfl, b1⟩
      obtain ⟨c0, ⟨c1, c2, c3⟩, ⟨c4, c5, c6⟩, hw1⟩ := unhide HB _ b1
      have c7 := unhide HBS _ b1
      clear KM HW
      go_wp2
      generalize W1.setCell ⟨w.heap.size + 1 + 1, 0, none⟩ (.slice none 0 0) = WZ at *
      exact bodyPost_ret (v := .tuple #[.agg #[.slice none 0 0], .int .i64 0, .int .i64 1]) (by simp [results, Tryz.results23, go_sem, c6]) rfl ⟨rfl, c7⟩
    · have n1' : decide (mm < 0) = false := decide_eq_false n1
      by_cases n2 : ee < 0
      · obtain rfl := hbad (Or.inr (Or.inl n2))
        clear HE hbad
        go_enter Tryz.func23, Tryz.ntmps23
        go_wp2_with fail
        rw [← unhide HW]
        refine (unhide KM _ hb0).mono ?_
        rintro e W1 ⟨rfl, b1⟩
        obtain ⟨c0, ⟨c1, c2, c3⟩, ⟨c4, c5, c6⟩, hw1⟩ := unhide HB _ b1
        have c7 := unhide HBS _ b1
        clear KM HW
        go_wp2
        generalize W1.setCell ⟨w.heap.size + 1 + 1, 0, none⟩ (.slice none 0 0) = WZ at *
        exact bodyPost_ret (v := .tuple #[.agg #[.slice none 0 0], .int .i64 0, .int .i64 1]) (by simp [results, Tryz.results23, go_sem, c6]) rfl ⟨rfl, c7⟩
      · have n2' : decide (ee < 0) = false := decide_eq_false n2
        by_cases n3 : pp < 1
        · obtain rfl := hbad (Or.inr (Or.inr n3))
          clear HE hbad
          go_enter Tryz.func23, Tryz.ntmps23
          go_wp2_with fail
          rw [← unhide HW]
          refine (unhide KM _ hb0).mono ?_
          rintro e W1 ⟨rfl, b1⟩
          obtain ⟨c0, ⟨c1, c2, c3⟩, ⟨c4, c5, c6⟩, hw1⟩ := unhide HB _ b1
          have c7 := unhide HBS _ b1
          clear KM HW
          go_wp2
          generalize W1.setCell ⟨w.heap.size + 1 + 1, 0, none⟩ (.slice none 0 0) = WZ at *
          exact bodyPost_ret (v := .tuple #[.agg #[.slice none 0 0], .int .i64 0, .int .i64 1]) (by simp [results, Tryz.results23, go_sem, c6]) rfl ⟨rfl, c7⟩
        · have n3' : decide (pp < 1) = false := decide_eq_false n3
          have HE2 : Hid (E = if 0 ≤ fm then 13 else if ib = 8 then 3 else 0) := by unfold Hid; rw [unhide HE, if_neg (by simp; omega)]
          clear HE hbad
          by_cases n4 : 0 ≤ fm
          · obtain rfl : E = 13 := by rw [unhide HE2, if_pos n4]
            clear HE2
            go_enter Tryz.func23, Tryz.ntmps23
            go_wp2_with fail
            rw [← unhide HW]
            refine (unhide KM _ hb0).mono ?_
            rintro e W1 ⟨rfl, b1⟩
            obtain ⟨c0, ⟨c1, c2, c3⟩, -, hw1⟩ := unhide HB _ b1
            clear KM HW
            go_wp2_with fail
            refine (unhide KF2 _ hw1).mono ?_
            rintro e W2 ⟨rfl, b2⟩
            have b3 := bw_tr b1 b2
            clear c0 c1 c2 c3
            obtain ⟨c0, -, ⟨c4, c5, c6⟩, hw3⟩ := unhide HB _ b3
            have c7 := unhide HBS _ b3
            go_wp2
            generalize W2.setCell ⟨w.heap.size + 1 + 1, 0, none⟩ (.slice none 0 0) = WZ at *
            exact bodyPost_ret (v := .tuple #[.agg #[.slice none 0 0], .int .i64 0, .int .i64 13]) (by simp [results, Tryz.results23, go_sem, c6]) rfl ⟨rfl, c7⟩
          · have n4' : decide (0 ≤ fm) = false := decide_eq_false n4
            have h8 : ib = 8 := by
              apply Decidable.byContradiction; intro c
              exact unhide HE0 (by rw [unhide HE2, if_neg n4, if_neg c])
            obtain rfl : E = 3 := by rw [unhide HE2, if_neg n4, if_pos h8]
            subst h8
            clear HE2
            go_enter Tryz.func23, Tryz.ntmps23
            go_wp2_with fail
            rw [← unhide HW]
            refine (unhide KM _ hb0).mono ?_
            rintro e W1 ⟨rfl, b1⟩
            obtain ⟨c0, ⟨c1, c2, c3⟩, -, hw1⟩ := unhide HB _ b1
            clear KM HW
            go_wp2_with fail
            refine (unhide KF2 _ hw1).mono ?_
            rintro e W2 ⟨rfl, b2⟩
            have b3 := bw_tr b1 b2
            clear c0 c1 c2 c3
            obtain ⟨c0, -, -, hw3⟩ := unhide HB _ b3
            go_wp2_with fail
            refine (unhide KB2 _ hw3).mono ?_
            rintro e W3 ⟨rfl, b4⟩
            have b5 := bw_tr b3 b4
            clear c0
            obtain ⟨c0, -, ⟨c4, c5, c6⟩, hw5⟩ := unhide HB _ b5
            have c7 := unhide HBS _ b5
            go_wp2
            generalize W3.setCell ⟨w.heap.size + 1 + 1, 0, none⟩ (.slice none 0 0) = WZ at *
            exact bodyPost_ret (v := .tuple #[.agg #[.slice none 0 0], .int .i64 0, .int .i64 3]) (by simp [results, Tryz.results23, go_sem, c6]) rfl ⟨rfl, c7⟩
theorem add_any {w : World} {v : Value} {T : List Nd} (h : Trd w v T) (hT : Tab w) (mm ee pp : Int) :
    Calls Tryz.prog 23 #[.agg #[v], .agg #[.int .i64 mm, .int .i64 ee, .int .i64 pp]] w fun e w' => ∃ r us, e = .returned (.tuple #[.agg #[r], .int .i64 (addA T mm ee pp : Nat), .int .i64 (addE T mm ee pp)]) ∧ OTr w.heap.size w' r (addR T mm ee pp) us ∧ Below w.heap.size w w' := by
  by_cases hE : addE T mm ee pp = 0
  · refine (add_ok h hT mm ee pp hE).mono ?_
    rintro e w' ⟨r, us, h1, h2, h3⟩
    refine ⟨r, us, ?_, ?_, h3⟩
    · rw [h1, hE]; unfold addA; rw [if_pos hE]
    · unfold addR; rw [if_pos hE]; exact h2
  · refine (add_err h hT mm ee pp hE).mono ?_
    rintro e w' ⟨h1, h3⟩
    refine ⟨.slice none 0 0, [], ?_, ?_, h3⟩
    · rw [h1]; unfold addA; rw [if_neg hE]; rfl
    · unfold addR; rw [if_neg hE]; exact otr_nil _ _
theorem trd_nil (w : World) : Trd w (.slice none 0 0) [] := ⟨by simp, by simp, Or.inl ⟨rfl, none, 0, rfl⟩⟩
end Go.Proofs.YtpgppnmobbgefaaGreatDoor
