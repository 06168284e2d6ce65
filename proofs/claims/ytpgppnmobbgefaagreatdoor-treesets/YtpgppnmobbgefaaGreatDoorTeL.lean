/- The contract of the document's Path. -/
import Derived.Test.YtpgppnmobbgefaaGreatDoorTeK
namespace Go.Proofs.YtpgppnmobbgefaaGreatDoor
open Go.RowKit Go.Maps

set_option maxRecDepth 100000 in
set_option maxHeartbeats 4000000 in
theorem rpath_ok {w : World} {v : Value} {T : List Nd} (h : Trd w v T) {i : Nat} (hm : mayB T = true) (hE : askE T (i : Int) = 0) (hi : i < nlv T) :
    Calls Tryz.prog 35 #[.agg #[v], .int .i64 (i : Int)] w fun e w' => ∃ r, e = .returned (.tuple #[r, .int .i64 0]) ∧ Ints w.heap.size w' r (pth T i) ∧ Below w.heap.size w w' := by
  have ok := mayB_okn hm (nlv_pos (by omega))
  obtain ⟨g1, g2, g3, g4, g5⟩ := ok.wd.facts
  obtain ⟨d1, d2, d3, d4, d5, d6⟩ := up_of g1 hi
  have d7 := up_len g1 hi
  obtain ⟨i0, hi0, hz0, hz1, hz2⟩ := info_parts Tryz.infoInt
  obtain ⟨a, c, rfl⟩ := h.slice
  obtain ⟨w0, hw0⟩ : ∃ w0, w0 = bxw w (.slice a T.length c) := ⟨_, rfl⟩
  have b0 : Below w.heap.size w w0 := by rw [hw0]; exact bwA _ _
  have HB : Hid (∀ W, Below w0.heap.size w0 W → W.cell? ⟨w.heap.size, 0, none⟩ = some (.slice a T.length c) ∧ Below w.heap.size w W) := fun W hW => by subst hw0; exact ⟨bx_cell hW, bx_bel hW⟩
  have KA := hide (rasked_any (h.bw b0) (i : Int))
  rw [hE] at KA
  have hrl : rlv T.length = nlv T := by have := rlv_of g1; rw [← g2] at this; exact this
  have KL : Hid (∀ W, Calls Tryz.prog 48 #[.agg #[.slice a T.length c]] W fun e w' => e = .returned (.int .i64 (nlv T : Nat)) ∧ Below W.heap.size W w') := fun W => by have := rleaves_any a T.length c W h.len; rw [hrl] at this; exact this
  obtain ⟨x2, hx2⟩ : ∃ x2, x2 = 2 * i := ⟨_, rfl⟩
  have KD : Hid (∀ W, Calls Tryz.prog 163 #[.int .i64 (x2 : Int), .int .i64 (nlv T : Nat)] W fun e w' => ∃ v, e = .returned v ∧ Ints W.heap.size w' v ((upN (nlv T) i).map (fun (x : Nat) => (x : Int))) ∧ Below W.heap.size W w') := fun W => by
    have := rdirect_any ((x2 : Nat) : Int) ((nlv T : Nat) : Int) W; rw [hx2, d1] at this; rw [hx2]; exact this
  have KO : Hid (∀ (x s : Nat), (x, s) ∈ (upN (nlv T) i).zip (sdN (nlv T) i) → ∀ W, Calls Tryz.prog 175 #[.int .i64 (x : Int), .int .i64 (i : Int)] W fun e w' => e = .returned (.int .i64 (s : Int)) ∧ w' = W) := fun x s hxs W => rother_at g1 hi hxs W
  have KR : Hid (∀ W (y : Nat), y ∈ sdN (nlv T) i → Below w.heap.size w W → Calls Tryz.prog 173 #[.agg #[.slice a T.length c], .int .i64 (y : Int)] W fun e w' => ∃ r, e = .returned r ∧ Ints W.heap.size w' r (rsl T y) ∧ Below W.heap.size W w') := fun W y hy hW => rres_at ok.wd ok.sm y (d6 y hy) (h.bw hW)
  have HP : Hid (pth T i = (prsL T ((upN (nlv T) i).zip (sdN (nlv T) i))).map fun p => (p.1 : Int)) := by unfold Hid pth; rw [prs_eq]
  have HL72 : Hid (∀ y ∈ sdN (nlv T) i, (rsl T y).length ≤ 72) := fun y hy => rsl_72 ok.wd ok.sm (by have := d6 y hy; omega)
  have q : 2 * (i : Int) = (x2 : Int) := by omega
  have hi8 : (i : Int) ≤ 8 := by omega
  have hi0' : (0 : Int) ≤ (i : Int) := by omega
  have HW : Hid (w0 = w.alloc (.cells #[.slice a T.length c] 24)) := hw0
  clear h hE hm ok hx2 hw0 hrl g1 g2 g3 g4 g5 d1 d2 d4 d5 d6 hi
  generalize nlv T = n at *
  generalize upN n i = U at *
  generalize sdN n i = D at *
  generalize T.length = N at *
  obtain ⟨M, hM⟩ : ∃ M, M = U.length := ⟨_, rfl⟩
  have hM3 : M ≤ 3 := by omega
  have HM : Hid (M = U.length ∧ M = D.length) := ⟨hM, by omega⟩
  clear hM d3 d7
  go_enter Tryz.func35, Tryz.ntmps35
  go_wp2_with fail
  rw [← unhide HW]
  refine (unhide KA).mono ?_
  rintro e w1 ⟨rfl, b1⟩
  obtain ⟨c1, hb1⟩ := unhide HB _ b1
  clear KA HW
  go_wp2_with fail
  refine (unhide KL _).mono ?_
  rintro e w2 ⟨rfl, b2⟩
  have b3 := bw_tr b1 b2
  clear KL c1
  go_wp2_with fail
  refine (unhide KD _).mono ?_
  rintro e w3 ⟨uv, rfl, huv, b4⟩
  have b5 := bw_tr b3 b4
  have HU := hide (huv.nums)
  obtain ⟨ua, uc, hue⟩ := own_slice huv
  rw [List.length_map, ← (unhide HM).1] at hue
  subst hue
  have s0 := b0.size
  have s5 := b5.size
  clear KD huv hb1
  go_wp2_with fail
  go_loopw [7, 9] (fun nv iv wr => ∃ (j : Nat), iv = .int .i64 (j : Int) ∧ j ≤ M ∧ Ints w3.heap.size wr nv ((prsL T ((U.zip D).take j)).map fun p => (p.1 : Int)) ∧ Below w3.heap.size w3 wr) (fun _ iv _ => (M - (intOf iv)).toNat)
  case atStart => exact ⟨0, rfl, by omega, ints_nil _ _, Below.refl _ _⟩
  case round =>
    obtain ⟨j, rfl, hjM, hown, hbel⟩ := hrel
    have b6 := bw_tr b5 hbel
    obtain ⟨c1, hbw⟩ := unhide HB _ b6
    by_cases hlt : j < M
    · obtain ⟨y, hy⟩ : ∃ y, U[j]? = some y := ⟨_, List.getElem?_eq_getElem (by have := (unhide HM).1; omega)⟩
      obtain ⟨z, hz⟩ : ∃ z, D[j]? = some z := ⟨_, List.getElem?_eq_getElem (by have := (unhide HM).2; omega)⟩
      obtain ⟨gu, ou, cu, hue, hcu⟩ := (unhide HU).open (by simp; have := (unhide HM).1; omega)
      rw [List.length_map, ← (unhide HM).1] at hue
      cases hue
      have HUc : Hid (∀ W, Below w3.heap.size w3 W → W.cell? ⟨w.heap.size, 0, none⟩ = some (.slice a N c) ∧ W.cell? ⟨gu, ou + j, none⟩ = some (.int .i64 (y : Int))) := fun W hW => by
        have k1 := hcu j (y : Int) (by simp [hy])
        exact ⟨(unhide HB _ (bw_tr b5 hW)).1, by rw [hW.cell (p := ⟨gu, ou + j, none⟩) (lt_of_cell (a := ⟨gu, ou + j, none⟩) k1)]; exact k1⟩
      have hzm : z ∈ D := List.mem_of_getElem? hz
      have e : (U.zip D)[j]? = some (y, z) := by rw [List.getElem?_zip_eq_some]; exact ⟨hy, hz⟩
      have KR2 := hide (unhide KR · z hzm)
      have KO2 := hide (unhide KO y z (List.mem_of_getElem? e))
      have hl72 := unhide HL72 z hzm
      have hsn : Hid ((prsL T ((U.zip D).take (j + 1))).map (fun p => (p.1 : Int)) = (prsL T ((U.zip D).take j)).map (fun p => (p.1 : Int)) ++ if rsl T z = [] then [] else [(y : Int)]) := by
        unfold Hid
        rw [List.take_add_one, e]
        show (prsL T (_ ++ [(y, z)])).map _ = _
        rw [prsL_snoc T _ (y, z), List.map_append]
        split <;> rfl
      have hpl : ((prsL T ((U.zip D).take j)).map fun p => (p.1 : Int)).length ≤ 3 := by rw [List.length_map]; exact Nat.le_trans (prsL_len T _) (by simp; omega)
      generalize (prsL T ((U.zip D).take j)).map (fun p => (p.1 : Int)) = P at *
      generalize rsl T z = L at *
      have q1 : (j : Int) < (M : Int) := by omega
      have q0 : (0 : Int) ≤ (j : Int) := by omega
      have hM3' : (M : Int) ≤ 3 := by omega
      clear hy hz hcu hzm KR KO HL72 e
      have bd : Below w3.heap.size w3 wr.drew := hbel.drew
      have J1 := unhide KR2 wr.drew hbw.drew
      have S00 := unhide HUc _ hbel
      have S0 := unhide HUc _ bd
      generalize ((z : Nat) : Int) = zi at *
      generalize ((y : Nat) : Int) = yi at *
      have HO := hide hown
      clear hown c1
      go_upto_region 9 with fail
      first
      | go_region_held3 (fun w' : World => w'.cell? ⟨w.heap.size, 0, none⟩ = some (.slice a N c) ∧ w'.cell? ⟨gu, ou + j, none⟩ = some (.int .i64 yi)) (first | with_reducible exact S00 | with_reducible exact S0 | with_reducible exact S1) (first
          | (go_at_call 173; refine J1.mono ?_; rintro e z1 ⟨r1, rfl, R1, b7⟩; have b8 := bw_tr bd b7; have S1 := unhide HUc _ b8; obtain ⟨ra, rc, re⟩ := own_slice R1; subst re)
          | (go_at_call 175; refine (unhide KO2 _).mono ?_; rintro e z0 ⟨rfl, rfl⟩)
          | fail)
      | fail
      all_goals
        have hP2 := (unhide HO).bw (bw_tr (Below.refl _ _).drew b7)
        obtain ⟨-, cu8⟩ := S1
        have hsz := b8.size
        clear S0 S00 J1 HUc KR2 KO2 HO
        by_cases hL : L = []
        · subst hL
          clear R1
          go_wp2_with fail
          go_roundw
          case rel => exact ⟨j + 1, by go_num, by omega, by rw [unhide hsn]; simpa using hP2, b8⟩
          case measure => simp [intOf]; omega
        · have hLp : (0 : Int) < (L.length : Int) := by have := List.length_pos_iff.2 hL; omega
          have hl72' : (L.length : Int) ≤ 72 := by omega
          rw [if_neg hL] at hsn
          clear hL R1
          generalize L.length = LL at *
          go_wp2_with (at_builtin; refine wpList_append_own _ rfl (.tmp 37) (.tmp 42) 31 rfl w3.heap.size 3 i0 (.int .i64 0) 1 8 Tryz.underlying31 hi0 hz0 hz1 hz2 rfl (by decide) _ P.length _ rfl (World.ownsRow.alloc hP2 _) ⟨z1.heap.size, 0, none⟩ 1 1 [_] rfl rfl (cell_one_new _ _ _) ?c2 ?c3 ?c4 ?c5 ?nx)
          case c2 => intro u hu; simp at hu; subst hu; rfl
          case c3 => unfold maxLen; omega
          case c4 => omega
          case c5 => simp; omega
          case nx =>
            intro v' w4 hown' hgrow _
            obtain ⟨R1, R2⟩ := ints_snoc yi b8 hP2 hown' hgrow
            clear hown' hgrow
            go_wp2_with fail
            go_roundw
            case rel => exact ⟨j + 1, by go_num, by omega, by rw [unhide hsn]; exact R1, R2⟩
            case measure => simp [intOf]; omega
    · have e : (U.zip D).take j = U.zip D := List.take_of_length_le (by have := unhide HM; simp; omega)
      rw [e, ← unhide HP] at hown
      have hF := hide (And.intro (hown.mono (show w.heap.size ≤ w3.heap.size by omega)) hbw)
      have hie : j = M := by omega
      subst hie
      clear hown e
      go_wp2_with fail
      go_ret2
      exact ⟨_, rfl, (unhide hF).1, (unhide hF).2⟩
set_option maxRecDepth 100000 in
set_option maxHeartbeats 1000000 in
theorem rpath_err {w : World} {v : Value} {T : List Nd} (h : Trd w v T) (i : Int) (hE : askE T i ≠ 0) :
    Calls Tryz.prog 35 #[.agg #[v], .int .i64 i] w fun e w' => e = .returned (.tuple #[.slice none 0 0, .int .i64 (askE T i)]) ∧ Below w.heap.size w w' := by
  obtain ⟨w0, hw0⟩ : ∃ w0, w0 = bxw w v := ⟨_, rfl⟩
  have b0 : Below w.heap.size w w0 := by rw [hw0]; exact bwA _ _
  have KA := hide (rasked_any (h.bw b0) i)
  have HW : Hid (w0 = w.alloc (.cells #[v] 24)) := hw0
  generalize askE T i = E at *
  have k1 : (E == 0) = false := by simpa using hE
  have k2 : decide (E = 0) = false := by simpa using hE
  have k3 : (E != 0) = true := by simpa using hE
  clear h hw0 hE
  go_enter Tryz.func35, Tryz.ntmps35
  go_wp2_with fail
  rw [← unhide HW]
  refine (unhide KA).mono ?_
  rintro e w1 ⟨rfl, b1⟩
  have b2 := bw_tr b0 b1
  clear KA HW b1
  go_wp2
  go_ret2
  exact ⟨rfl, b2⟩
theorem askE_zero {T : List Nd} {i : Int} (h : askE T i = 0) : mayB T = true ∧ ∃ n : Nat, i = n ∧ n < nlv T := by
  unfold askE at h
  cases hm : mayB T
  · rw [if_pos hm] at h; cases h
  · rw [if_neg (by simp [hm])] at h
    cases hh : hasL T i
    · rw [if_pos hh] at h; cases h
    · have h0 : 0 ≤ i := by
        apply Decidable.byContradiction; intro c; unfold hasL at hh; rw [decide_eq_false c] at hh; simp at hh
      obtain ⟨n, rfl⟩ : ∃ n : Nat, i = n := ⟨i.toNat, by omega⟩
      exact ⟨rfl, n, rfl, (hasL_pos hh).1⟩
theorem rpath_any {w : World} {v : Value} {T : List Nd} (h : Trd w v T) (i : Int) :
    Calls Tryz.prog 35 #[.agg #[v], .int .i64 i] w fun e w' => ∃ r, e = .returned (.tuple #[r, .int .i64 (askE T i)]) ∧ Ints w.heap.size w' r (if askE T i = 0 then pth T i.toNat else []) ∧ Below w.heap.size w w' := by
  by_cases hE : askE T i = 0
  · obtain ⟨hm, n, rfl, hn⟩ := askE_zero hE
    refine (rpath_ok h hm hE hn).mono ?_
    rintro e w' ⟨r, h1, h2, h3⟩
    rw [if_pos hE]
    exact ⟨r, by rw [h1, hE], h2, h3⟩
  · refine (rpath_err h i hE).mono ?_
    rintro e w' ⟨h1, h2⟩
    rw [if_neg hE]
    exact ⟨_, h1, ints_nil _ _, h2⟩
end Go.Proofs.YtpgppnmobbgefaaGreatDoor
