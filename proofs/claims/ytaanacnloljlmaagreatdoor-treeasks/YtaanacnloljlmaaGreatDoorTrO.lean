/- The contract of Remove, whatever comes of it; of New. -/
import Derived.Test.YtaanacnloljlmaaGreatDoorZ09
namespace Go.Proofs.YtaanacnloljlmaaGreatDoor
open Go.RowKit Go.Maps

set_option maxRecDepth 100000 in
set_option maxHeartbeats 4000000 in
theorem rem_err {w : World} {v : Value} {T : List Nd} (h : Trd w v T) (hT : Tab w) (mm : Int) (hE : remE T mm ≠ 0) :
    Calls Tryz.prog 150 #[.agg #[v], .int .i64 mm] w fun e w' => e = .returned (.tuple #[.agg #[.slice none 0 0], .int .i64 (remE T mm)]) ∧ Below w.heap.size w w' := by
  obtain ⟨W0, hW0⟩ : ∃ W0, W0 = (bxw w v).alloc (.cells #[.slice none 0 0] 24) := ⟨_, rfl⟩
  have hb0 : Below w.heap.size w W0 := by rw [hW0]; exact (bwA _ _).alloc (by simp) _
  have hs0 : W0.heap.size = w.heap.size + 2 := by rw [hW0]; simp
  have HB : Hid (∀ W, Below W0.heap.size W0 W → W.cell? ⟨w.heap.size, 0, none⟩ = some v ∧ (W.cell? ⟨w.heap.size + 1, 0, none⟩ = some (.slice none 0 0) ∧ W.frozen? ⟨w.heap.size + 1, 0, none⟩ = false ∧ (W.setCell ⟨w.heap.size + 1, 0, none⟩ (.slice none 0 0)).cell? ⟨w.heap.size + 1, 0, none⟩ = some (.slice none 0 0)) ∧ Below w.heap.size w W) := fun W hW => by
    have e0 : W.heap[w.heap.size]? = some (.cells #[v] 24 (0, 0)) := by
      rw [hW.block _ (by omega), hW0, Below.heap_alloc _ _ _ (by simp)]; exact heap_alloc_new _ _
    have e2 : W.heap[w.heap.size + 1]? = some (.cells #[.slice none 0 0] 24 (0, 0)) := by
      rw [hW.block _ (by omega), hW0]
      have := heap_alloc_new (bxw w v) (.cells #[.slice none 0 0] 24)
      simpa using this
    exact ⟨cell_of_blk e0 rfl, ⟨cell_of_blk e2 rfl, by simp [World.frozen?, e2], cell_set_same (cell_of_blk e2 rfl) _⟩, bw_tr hb0 hW⟩
  have KM : Hid (∀ W, Below w.heap.size w W → Calls Tryz.prog 37 #[.agg #[v]] W fun e w' => e = .returned (.bool (mayB T)) ∧ Below W.heap.size W w') := fun W hW => mayBe_any (h.bw hW) (hT.bw hW)
  have KF : Hid (mayB T = true → ∀ W, Below w.heap.size w W → Calls Tryz.prog 39 #[.agg #[v], .int .i64 mm] W fun e w' => e = .returned (.int .i64 (fnd T mm)) ∧ Below W.heap.size W w') := fun q W hW => find_any (h.bw hW) (mayB_15 q).1 mm
  have KB : Hid (mayB T = true → ∀ W, Below w.heap.size w W → Calls Tryz.prog 40 #[.agg #[v]] W fun e w' => ∃ r, e = .returned r ∧ Ints W.heap.size w' r (mems T) ∧ Below W.heap.size W w') := fun q W hW => members_any (h.bw hW) (mayB_15 q).1
  have HW : Hid (W0 = (w.alloc (.cells #[v] 24)).alloc (.cells #[.slice none 0 0] 24)) := hW0
  obtain ⟨E, hEE⟩ : ∃ E, E = remE T mm := ⟨_, rfl⟩
  rw [← hEE] at hE ⊢
  unfold remE at hEE
  have HE := hide hEE
  have HE0 := hide hE
  have HBS : Hid (∀ W, Below W0.heap.size W0 W → Below w.heap.size w (W.setCell ⟨w.heap.size + 1, 0, none⟩ (.slice none 0 0))) := fun W hW => (unhide HB _ hW).2.2.setCell (by simp) _
  clear h hT hEE hE hW0 hs0
  generalize mayB T = p at *
  generalize fnd T mm = fm at *
  generalize mems T = ml at *
  cases p
  · obtain rfl : E = 1 := by rw [unhide HE]; simp
    clear KF KB HE
    go_enter Tryz.func150, Tryz.ntmps150
    go_wp2_with fail
    rw [← unhide HW]
    refine (unhide KM _ hb0).mono ?_
    rintro e W1 ⟨rfl, b1⟩
    obtain ⟨c0, ⟨c4, c5, c6⟩, hw1⟩ := unhide HB _ b1
    have c7 := unhide HBS _ b1
    clear KM HW
    go_wp2
    generalize W1.setCell ⟨w.heap.size + 1, 0, none⟩ (.slice none 0 0) = WZ at *
    exact bodyPost_ret (v := .tuple #[.agg #[.slice none 0 0], .int .i64 1]) (by simp [results, Tryz.results150, go_sem, c6]) rfl ⟨rfl, c7⟩
  · have KF2 := hide (unhide KF rfl)
    have KB2 := hide (unhide KB rfl)
    have HE2 : Hid (E = if fm < 0 then 7 else if ml.length = 1 then 9 else 0) := by unfold Hid; rw [unhide HE]; simp
    clear KF KB HE
    by_cases n1 : fm < 0
    · obtain rfl : E = 7 := by rw [unhide HE2, if_pos n1]
      clear HE2
      go_enter Tryz.func150, Tryz.ntmps150
      go_wp2_with fail
      rw [← unhide HW]
      refine (unhide KM _ hb0).mono ?_
      rintro e W1 ⟨rfl, b1⟩
      obtain ⟨c0, -, hw1⟩ := unhide HB _ b1
      clear KM HW
      go_wp2_with fail
      refine (unhide KF2 _ hw1).mono ?_
      rintro e W2 ⟨rfl, b2⟩
      have b3 := bw_tr b1 b2
      clear c0
      obtain ⟨c0, ⟨c4, c5, c6⟩, hw3⟩ := unhide HB _ b3
      have c7 := unhide HBS _ b3
      go_wp2
      generalize W2.setCell ⟨w.heap.size + 1, 0, none⟩ (.slice none 0 0) = WZ at *
      exact bodyPost_ret (v := .tuple #[.agg #[.slice none 0 0], .int .i64 7]) (by simp [results, Tryz.results150, go_sem, c6]) rfl ⟨rfl, c7⟩
    · have n1' : decide (fm < 0) = false := decide_eq_false n1
      have h8 : ml.length = 1 := by
        apply Decidable.byContradiction; intro c
        exact unhide HE0 (by rw [unhide HE2, if_neg n1, if_neg c])
      obtain rfl : E = 9 := by rw [unhide HE2, if_neg n1, if_pos h8]
      have H8 := hide h8
      clear HE2 h8
      go_enter Tryz.func150, Tryz.ntmps150
      go_wp2_with fail
      rw [← unhide HW]
      refine (unhide KM _ hb0).mono ?_
      rintro e W1 ⟨rfl, b1⟩
      obtain ⟨c0, -, hw1⟩ := unhide HB _ b1
      clear KM HW
      go_wp2_with fail
      refine (unhide KF2 _ hw1).mono ?_
      rintro e W2 ⟨rfl, b2⟩
      have b3 := bw_tr b1 b2
      clear c0
      obtain ⟨c0, -, hw3⟩ := unhide HB _ b3
      go_wp2_with fail
      refine (unhide KB2 _ hw3).mono ?_
      rintro e W3 ⟨rm, rfl, hrm, b4⟩
      obtain ⟨ma, mc, hme⟩ := own_slice hrm
      rw [unhide H8] at hme
      subst hme
      have b5 := bw_tr b3 b4
      clear c0 hrm
      obtain ⟨c0, ⟨c4, c5, c6⟩, hw5⟩ := unhide HB _ b5
      have c7 := unhide HBS _ b5
      go_wp2
      generalize W3.setCell ⟨w.heap.size + 1, 0, none⟩ (.slice none 0 0) = WZ at *
      exact bodyPost_ret (v := .tuple #[.agg #[.slice none 0 0], .int .i64 9]) (by simp [results, Tryz.results150, go_sem, c6]) rfl ⟨rfl, c7⟩
theorem rem_any {w : World} {v : Value} {T : List Nd} (h : Trd w v T) (hT : Tab w) (mm : Int) :
    Calls Tryz.prog 150 #[.agg #[v], .int .i64 mm] w fun e w' => ∃ r us, e = .returned (.tuple #[.agg #[r], .int .i64 (remE T mm)]) ∧ OTr w.heap.size w' r (remR T mm) us ∧ Below w.heap.size w w' := by
  by_cases hE : remE T mm = 0
  · refine (rem_ok h hT mm hE).mono ?_
    rintro e w' ⟨r, us, h1, h2, h3⟩
    refine ⟨r, us, ?_, ?_, h3⟩
    · rw [h1, hE]
    · unfold remR; rw [if_pos hE]; exact h2
  · refine (rem_err h hT mm hE).mono ?_
    rintro e w' ⟨h1, h3⟩
    refine ⟨.slice none 0 0, [], ?_, ?_, h3⟩
    · rw [h1]
    · unfold remR; rw [if_neg hE]; exact otr_nil _ _
set_option maxRecDepth 100000 in
set_option maxHeartbeats 4000000 in
theorem new_any {w : World} (hT : Tab w) (mm ee pp : Int) :
    Calls Tryz.prog 148 #[.agg #[.int .i64 mm, .int .i64 ee, .int .i64 pp]] w fun e w' => ∃ r us, e = .returned (.tuple #[.agg #[r], .int .i64 (addE [] mm ee pp)]) ∧ OTr w.heap.size w' r (addR [] mm ee pp) us ∧ Below w.heap.size w w' := by
  obtain ⟨W0, hW0⟩ : ∃ W0, W0 = (w.alloc (.cells #[.int .i64 mm, .int .i64 ee, .int .i64 pp] 98)).alloc (.cells #[.slice none 0 0] 24) := ⟨_, rfl⟩
  have hb0 : Below w.heap.size w W0 := by rw [hW0]; exact (bwA _ _).alloc (by simp) _
  have hs0 : W0.heap.size = w.heap.size + 2 := by rw [hW0]; simp
  have HB : Hid (∀ W, Below W0.heap.size W0 W → (W.cell? ⟨w.heap.size + 1, 0, none⟩ = some (.slice none 0 0) ∧ W.frozen? ⟨w.heap.size + 1, 0, none⟩ = false) ∧ Below w.heap.size w W) := fun W hW => by
    have e2 : W.heap[w.heap.size + 1]? = some (.cells #[.slice none 0 0] 24 (0, 0)) := by
      rw [hW.block _ (by omega), hW0]
      have := heap_alloc_new (w.alloc (.cells #[.int .i64 mm, .int .i64 ee, .int .i64 pp] 98)) (.cells #[.slice none 0 0] 24)
      simpa using this
    exact ⟨⟨cell_of_blk e2 rfl, by simp [World.frozen?, e2]⟩, bw_tr hb0 hW⟩
  have KA := hide (add_any (trd_nil W0) (hT.bw hb0) mm ee pp)
  have HW : Hid (W0 = (w.alloc (.cells #[.int .i64 mm, .int .i64 ee, .int .i64 pp] 98)).alloc (.cells #[.slice none 0 0] 24)) := hW0
  generalize addE [] mm ee pp = E at *
  generalize addR [] mm ee pp = R at *
  generalize addA [] mm ee pp = A at *
  clear hT hW0
  go_enter Tryz.func148, Tryz.ntmps148
  go_wp2_with fail
  rw [← unhide HW]
  refine (unhide KA).mono ?_
  rintro e W1 ⟨r, us, rfl, hO, b1⟩
  obtain ⟨ra, rc, rfl⟩ := own_slice hO.row
  obtain ⟨⟨c1, c2⟩, c3⟩ := unhide HB _ (b1.alloc b1.size (.cells #[.slice ra R.length rc] 24))
  have HF : Hid (OTr w.heap.size ((W1.alloc (.cells #[.slice ra R.length rc] 24)).setCell ⟨w.heap.size + 1, 0, none⟩ (.slice ra R.length rc)) (.slice ra R.length rc) R us ∧ Below w.heap.size w ((W1.alloc (.cells #[.slice ra R.length rc] 24)).setCell ⟨w.heap.size + 1, 0, none⟩ (.slice ra R.length rc))) :=
    ⟨((hO.bw (bwA _ _)).keepB (fun k hk => Below.heap_setCell _ _ _ _ (by simp; omega))).mono (by omega), c3.setCell (by simp) _⟩
  have cZ : ((W1.alloc (.cells #[.slice ra R.length rc] 24)).setCell ⟨w.heap.size + 1, 0, none⟩ (.slice ra R.length rc)).cell? ⟨w.heap.size + 1, 0, none⟩ = some (.slice ra R.length rc) := cell_set_same c1 _
  generalize R.length = RL at *
  clear hO KA HW HB hs0
  go_wp2_with fail
  generalize (W1.alloc (.cells #[.slice ra RL rc] 24)).setCell ⟨w.heap.size + 1, 0, none⟩ (.slice ra RL rc) = WZ at *
  exact bodyPost_ret (v := .tuple #[.agg #[.slice ra RL rc], .int .i64 E]) (by simp [results, Tryz.results148, go_sem, cZ]) rfl ⟨_, _, rfl, (unhide HF).1, (unhide HF).2⟩
end Go.Proofs.YtaanacnloljlmaaGreatDoor
