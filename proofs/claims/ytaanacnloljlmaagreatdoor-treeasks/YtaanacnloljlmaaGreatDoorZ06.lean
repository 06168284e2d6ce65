/- Texts joined: TrH TrI TsD TsE TeT. -/
import Derived.Test.YtaanacnloljlmaaGreatDoorZ05
import Derived.Test.YtaanacnloljlmaaGreatDoorZ04
import Derived.Test.YtaanacnloljlmaaGreatDoorZ02
import Derived.Deep.RegionHeld3
/- The contracts of above and path. -/
namespace Go.Proofs.YtaanacnloljlmaaGreatDoor
open Go.RowKit Go.Maps

set_option maxHeartbeats 1000000 in
theorem above_tr {w : World} {v : Value} {T : List Nd} (h : Trd w v T) (hs : T.length ≤ 15) (hT : Tab w) {i : Nat} (hi : i < nlv T) :
    Calls Tryz.prog 168 #[.agg #[v], .int .i64 (i : Int)] w fun e w' => ∃ r, e = .returned r ∧ Ints w.heap.size w' r (dir ((2 * i : Nat) : Int) (nlv T : Nat)) ∧ Below w.heap.size w w' := by
  obtain ⟨a, c, rfl⟩ := h.slice
  have KL : ∀ W, _ := fun W => leaves_any a T.length c W h.len
  have hnl : nlv T = (T.length + 1) / 2 := rfl
  rw [← hnl] at KL
  obtain ⟨x, hx⟩ : ∃ x, x = 2 * i := ⟨_, rfl⟩
  have KD : ∀ W, Below w.heap.size w W → _ := fun W hW => direct_any (x : Int) (nlv T : Nat) W (hT.bw hW)
  rw [← hx]
  have q : 2 * (i : Int) = (x : Int) := by omega
  have hi8 : (i : Int) ≤ 8 := by omega
  clear h hT hnl hx hs
  generalize nlv T = n at *
  generalize dir (x : Int) (n : Int) = L at *
  generalize T.length = N at *
  go_enter Tryz.func168, Tryz.ntmps168
  go_wp2_with fail
  refine (KL _).mono ?_
  rintro e w1 ⟨rfl, b1⟩
  have b2 := bx_bel b1
  have K2 := KD _ b2
  have hsz := b2.size
  clear KL KD
  go_wp2_with fail
  refine K2.mono ?_
  rintro e w2 ⟨r, rfl, hr, b3⟩
  go_wp2
  go_ret
  exact ⟨_, rfl, hr.mono hsz, bw_tr b2 b3⟩

theorem own_mono {B B' : Nat} {w : World} {e : TypeId} {c : Nat} {v : Value} {n : Nat} {xs : List Value} (h : w.ownsRow B e c v n xs) (hb : B' ≤ B) : w.ownsRow B' e c v n xs := by
  refine ⟨h.1, ?_⟩
  rcases h.2 with h | ⟨g, cap, cur, hv, h0, r⟩
  · exact Or.inl h
  · exact Or.inr ⟨g, cap, cur, hv, Nat.le_trans hb h0, r⟩
theorem own_alloc' {B : Nat} {w : World} {e : TypeId} {c : Nat} {v : Value} {n : Nat} {xs : List Value} (h : w.ownsRow B e c v n xs) (o : Obj) : (w.alloc o).ownsRow B e c v n xs :=
  own_keep h (fun k hk => Below.heap_alloc _ _ _ (World.ownsRow.lt h k hk).2)
/-- Where path's loop stands. -/
structure PI (B : Nat) (w : World) (nv ov : Value) (P : List (Nat × List Int)) (us : List Value) : Prop where
  ns : Ints B w nv (P.map fun p => (p.1 : Int))
  rr : RR B w ov (P.map (·.2)) us
  ap : ∀ k, nv.ownBlock = some k → k ∉ rrB us
theorem RR.mono {B B' : Nat} {w : World} {v : Value} {ls : List (List Int)} {us : List Value} (h : RR B w v ls us) (hb : B' ≤ B) : RR B' w v ls us :=
  ⟨h.ul, own_mono h.row hb, fun i l u hl hu => (h.un i l u hl hu).mono hb, h.apart⟩
theorem PI.mono {B B' : Nat} {w : World} {nv ov : Value} {P : List (Nat × List Int)} {us : List Value} (h : PI B w nv ov P us) (hb : B' ≤ B) : PI B' w nv ov P us := ⟨h.ns.mono hb, h.rr.mono hb, h.ap⟩
/-- A node and its row come behind the others. -/
theorem PI.push {B : Nat} {w w1 w2 : World} {nv ov nv' ov' : Value} {P : List (Nat × List Int)} {us : List Value} {r : Value} {L : List Int} {y : Nat} (h : PI B w nv ov P us) (hr : Ints B w r L) (hrn : ∀ k, r.ownBlock = some k → k ∉ rrB us) (hrv : ∀ k, r.ownBlock = some k → nv.ownBlock ≠ some k) {o1 o2 : Obj}
    (hn : w1.ownsRow B 3 1 nv' (P.length + 1) (P.map (fun p => I64 (p.1 : Int)) ++ [.int .i64 (y : Int)])) (hg1 : (w.alloc o1).grownBy w1 nv.ownBlock) (hp1 : nv'.ownBlock = nv.ownBlock ∨ nv'.ownBlock = some (w.alloc o1).heap.size)
    (ho : w2.ownsRow B 31 1 ov' (P.length + 1) (us ++ [r])) (hg2 : (w1.alloc o2).grownBy w2 ov.ownBlock) : PI B w2 nv' ov' (P ++ [(y, L)]) (us ++ [r]) := by
  have f1 : Fr nv.ownBlock.toList w w1 := ((Fr.refl _ w).alloc _).tr (Fr.ofGrown hg1)
  have hne : ∀ k, nv.ownBlock = some k → ov.ownBlock ≠ some k := fun k hk => own_apart h.ns h.rr.row (show (3 : Nat) ≠ 31 by decide) hk
  have rr1 : RR B w1 ov (P.map (·.2)) us := h.rr.keep f1 (fun k hk c => hne k (by simpa using c) hk) (fun k hk c => h.ap k (by simpa using c) hk)
  have r1 : Ints B w1 r L := own_keep hr (fun k hk => f1.block k (World.ownsRow.lt hr k hk).2 (fun c => hrv k hk (by simpa using c)))
  have ho' : w2.ownsRow B 31 1 ov' ((P.map (·.2)).length + 1) (us ++ [r]) := by simpa using ho
  have rr2 : RR B w2 ov' (P.map (·.2) ++ [L]) (us ++ [r]) := (rr1.bw (bwA _ o2)).push (own_alloc' r1 o2) hrn ho' hg2
  have f2 : Fr ov.ownBlock.toList w1 w2 := ((Fr.refl _ w1).alloc _).tr (Fr.ofGrown hg2)
  have hnI : Ints B w1 nv' ((P ++ [(y, L)]).map fun p => (p.1 : Int)) := by
    unfold Ints; simpa [I64, Function.comp_def] using hn
  refine ⟨own_keep hnI (fun k hk => f2.block k (World.ownsRow.lt hnI k hk).2 (fun c => own_apart hnI rr1.row (show (3 : Nat) ≠ 31 by decide) hk (by simpa using c))), by simpa using rr2, ?_⟩
  intro k hk c
  have hlt : ∀ m, m ∈ rrB (us ++ [r]) → m < w.heap.size := fun m hm => by
    unfold rrB at hm; rw [List.filterMap_append, List.mem_append] at hm
    rcases hm with hm | hm
    · exact (h.rr.lt hm).2
    · simp at hm; exact (World.ownsRow.lt hr m hm).2
  rcases hp1 with e | e
  · rw [e] at hk
    unfold rrB at c; rw [List.filterMap_append, List.mem_append] at c
    rcases c with c | c
    · exact h.ap k hk c
    · simp at c; exact hrv k c hk
  · rw [e] at hk
    have hk : (w.alloc o1).heap.size = k := by simpa using hk
    have := hlt k c
    simp at hk; omega
theorem PI.bw {B : Nat} {w w' : World} {nv ov : Value} {P : List (Nat × List Int)} {us : List Value} (h : PI B w nv ov P us) (hb : Below w.heap.size w w') : PI B w' nv ov P us := ⟨h.ns.bw hb, h.rr.bw hb, h.ap⟩
set_option maxRecDepth 100000 in
set_option maxHeartbeats 4000000 in
theorem path_any {w : World} {v : Value} {T : List Nd} (h : Trd w v T) (hw : Wd T) (hs : Sm T) (hT : Tab w) {i : Nat} (hi : i < nlv T) :
    Calls Tryz.prog 153 #[.agg #[v], .int .i64 (i : Int)] w fun e w' => ∃ nv ov us, e = .returned (.tuple #[nv, ov]) ∧ PI w.heap.size w' nv ov (prs T i) us ∧ Below w.heap.size w w' := by
  obtain ⟨g1, g2, g3, g4, g5⟩ := hw.facts
  obtain ⟨d1, d2, d3, d4, d5, d6⟩ := up_of g1 hi
  have d7 := up_len g1 hi
  obtain ⟨i0, hi0, hz0, hz1, hz2⟩ := info_parts Tryz.infoInt
  obtain ⟨j0, hj0, hy0, hy1, hy2⟩ := info_parts infoInts
  obtain ⟨a, c, rfl⟩ := h.slice
  obtain ⟨w0, hw0⟩ : ∃ w0, w0 = bxw w (.slice a T.length c) := ⟨_, rfl⟩
  have b0 : Below w.heap.size w w0 := by rw [hw0]; exact bwA _ _
  have HB : Hid (∀ W, Below w0.heap.size w0 W → W.cell? ⟨w.heap.size, 0, none⟩ = some (.slice a T.length c) ∧ Below w.heap.size w W) := fun W hW => by subst hw0; exact ⟨bx_cell hW, bx_bel hW⟩
  have KL := hide (leaves_any a T.length c w0 h.len)
  have hnl : nlv T = (T.length + 1) / 2 := rfl
  rw [← hnl] at KL
  obtain ⟨x2, hx2⟩ : ∃ x2, x2 = 2 * i := ⟨_, rfl⟩
  have KC : Hid (∀ W, Below w.heap.size w W → Calls Tryz.prog 251 #[.int .i64 (x2 : Int), .int .i64 (nlv T : Nat)] W fun e w' => ∃ v, e = .returned v ∧ Ints W.heap.size w' v ((sdN (nlv T) i).map (fun (x : Nat) => (x : Int))) ∧ Below W.heap.size W w') := fun W hW => by
    have := copath_any (x2 : Int) (nlv T : Nat) W (hT.bw hW); rw [hx2, d2] at this; rw [hx2]; exact this
  have KA : Hid (∀ W, Below w.heap.size w W → Calls Tryz.prog 168 #[.agg #[.slice a T.length c], .int .i64 (i : Int)] W fun e w' => ∃ r, e = .returned r ∧ Ints W.heap.size w' r ((upN (nlv T) i).map (fun (x : Nat) => (x : Int))) ∧ Below W.heap.size W w') := fun W hW => by
    have := above_tr (h.bw hW) g3 (hT.bw hW) hi; rw [d1] at this; exact this
  have KR : Hid (∀ W (y : Nat), y ∈ sdN (nlv T) i → Below w.heap.size w W → Calls Tryz.prog 151 #[.agg #[.slice a T.length c], .int .i64 (y : Int)] W fun e w' => ∃ r, e = .returned r ∧ Ints W.heap.size w' r (rsl T y) ∧ Below W.heap.size W w') := fun W y hy hW => resolution_at hw hs y (d6 y hy) (h.bw hW) (hT.bw hW)
  have HP : Hid (prs T i = prsL T ((upN (nlv T) i).zip (sdN (nlv T) i))) := prs_eq T i
  have HL72 : Hid (∀ y ∈ sdN (nlv T) i, (rsl T y).length ≤ 72) := fun y hy => rsl_72 hw hs (by have := d6 y hy; omega)
  have q : 2 * (i : Int) = (x2 : Int) := by omega
  have hi8 : (i : Int) ≤ 8 := by omega
  have HW : Hid (w0 = w.alloc (.cells #[.slice a T.length c] 24)) := hw0
  clear h hT hnl hx2 hw0 hw hs g1 g2 g3 g5 d1 d2 d4 d5 d6 hi
  generalize nlv T = n at *
  generalize upN n i = U at *
  generalize sdN n i = D at *
  generalize T.length = N at *
  obtain ⟨M, hM⟩ : ∃ M, M = U.length := ⟨_, rfl⟩
  have hM3 : M ≤ 3 := by omega
  have HM : Hid (M = U.length ∧ M = D.length) := ⟨hM, by omega⟩
  clear hM d3 d7
  go_enter Tryz.func153, Tryz.ntmps153
  go_wp2_with fail
  rw [← unhide HW]
  refine (unhide KL).mono ?_
  rintro e w1 ⟨rfl, b1⟩
  obtain ⟨c1, hb1⟩ := unhide HB _ b1
  clear KL HW
  go_wp2_with fail
  refine (unhide KC _ hb1).mono ?_
  rintro e w2 ⟨sv, rfl, hsv, b2⟩
  have b3 := bw_tr b1 b2
  obtain ⟨c2, hb3⟩ := unhide HB _ b3
  clear KC c1
  go_wp2_with fail
  refine (unhide KA _ hb3).mono ?_
  rintro e w3 ⟨uv, rfl, huv, b4⟩
  have b5 := bw_tr b3 b4
  have HS := hide ((hsv.nums).bw b4)
  have HU := hide (huv.nums)
  obtain ⟨ua, uc, hue⟩ := own_slice huv
  rw [List.length_map, ← (unhide HM).1] at hue
  obtain ⟨sa, sc, hse⟩ := own_slice hsv
  rw [List.length_map, ← (unhide HM).2] at hse
  subst hue hse
  have s0 := b0.size
  clear KA hsv huv c2 hb1 hb3
  go_wp2_with fail
  go_loopw [4, 5, 19] (fun nv ov iv wr => ∃ (j : Nat) (us : List Value), iv = .int .i64 (j : Int) ∧ j ≤ M ∧ Hid (PI w3.heap.size wr nv ov (prsL T ((U.zip D).take j)) us) ∧ Below w3.heap.size w3 wr) (fun _ _ iv _ => (M - (intOf iv)).toNat)
  case atStart => exact ⟨0, [], rfl, by omega, ⟨ints_nil _ _, rr_nil _ _, fun k hk => by cases hk⟩, Below.refl _ _⟩
  case round =>
    obtain ⟨j, us, rfl, hjM, hPI, hbel⟩ := hrel
    have b6 := bw_tr b5 hbel
    obtain ⟨c1, hbw⟩ := unhide HB _ b6
    by_cases hlt : j < M
    · obtain ⟨y, hy⟩ : ∃ y, U[j]? = some y := ⟨_, List.getElem?_eq_getElem (by have := (unhide HM).1; omega)⟩
      obtain ⟨z, hz⟩ : ∃ z, D[j]? = some z := ⟨_, List.getElem?_eq_getElem (by have := (unhide HM).2; omega)⟩
      obtain ⟨gu, ou, cu, hue, hcu⟩ := (unhide HU).open (by simp; have := (unhide HM).1; omega)
      obtain ⟨gs, os', cs, hse, hcs⟩ := (unhide HS).open (by simp; have := (unhide HM).2; omega)
      rw [List.length_map, ← (unhide HM).1] at hue
      rw [List.length_map, ← (unhide HM).2] at hse
      cases hue
      cases hse
      have HUc : Hid (∀ W, Below w3.heap.size w3 W → W.cell? ⟨gu, ou + j, none⟩ = some (.int .i64 (y : Int)) ∧ W.cell? ⟨gs, os' + j, none⟩ = some (.int .i64 (z : Int))) := fun W hW => by
        have k1 := hcu j (y : Int) (by simp [hy])
        have k2 := hcs j (z : Int) (by simp [hz])
        refine ⟨?_, ?_⟩
        · rw [hW.cell (p := ⟨gu, ou + j, none⟩) (lt_of_cell (a := ⟨gu, ou + j, none⟩) k1)]; exact k1
        · rw [hW.cell (p := ⟨gs, os' + j, none⟩) (lt_of_cell (a := ⟨gs, os' + j, none⟩) k2)]; exact k2
      obtain ⟨cu1, cs1⟩ := unhide HUc _ hbel
      have hzm : z ∈ D := List.mem_of_getElem? hz
      have KR2 := hide (unhide KR · z hzm)
      have hl72 := unhide HL72 z hzm
      have hsn : Hid (prsL T ((U.zip D).take (j + 1)) = prsL T ((U.zip D).take j) ++ if rsl T z = [] then [] else [(y, rsl T z)]) := by
        unfold Hid
        have e : (U.zip D)[j]? = some (y, z) := by rw [List.getElem?_zip_eq_some]; exact ⟨hy, hz⟩
        rw [List.take_add_one, e]
        exact prsL_snoc T _ (y, z)
      have hpl : (prsL T ((U.zip D).take j)).length ≤ 3 := Nat.le_trans (prsL_len T _) (by simp; omega)
      generalize prsL T ((U.zip D).take j) = P at *
      generalize rsl T z = L at *
      have q1 : (j : Int) < (M : Int) := by omega
      have q0 : (0 : Int) ≤ (j : Int) := by omega
      have hM3' : (M : Int) ≤ 3 := by omega
      clear hy hz hcu hcs hzm KR HL72
      have HR : Hid (∀ W, Below w3.heap.size w3 W → W.cell? ⟨w.heap.size, 0, none⟩ = some (.slice a N c) ∧ W.cell? ⟨gs, os' + j, none⟩ = some (.int .i64 (z : Int))) := fun W hW => ⟨(unhide HB _ (bw_tr b5 hW)).1, (unhide HUc _ hW).2⟩
      have bd : Below w3.heap.size w3 wr.drew := hbel.drew
      have J1 := unhide KR2 wr.drew hbw.drew
      have S0 := unhide HR _ bd
      generalize ((z : Nat) : Int) = zi at *
      go_upto_region 5 with fail
      go_region_held3 (fun w' : World => w'.cell? ⟨w.heap.size, 0, none⟩ = some (.slice a N c) ∧ w'.cell? ⟨gs, os' + j, none⟩ = some (.int .i64 zi)) (first | with_reducible exact S0 | with_reducible exact S1) (first
        | (go_at_call 151; refine J1.mono ?_; rintro e z1 ⟨r1, rfl, R1, b7⟩; have b8 := bw_tr bd b7; have S1 := unhide HR _ b8))
      have hPI2 := hide ((unhide hPI).bw (bw_tr (Below.refl _ _).drew b7))
      have hnew : Hid (∀ k, r1.ownBlock = some k → wr.heap.size ≤ k ∧ k < z1.heap.size) := fun k hk => World.ownsRow.lt R1 k hk
      have HO : Hid (PI w3.heap.size wr u4 u5 P us) := hPI
      clear S0 S1 J1 HR cu1 cs1 HUc KR2 hPI
      obtain ⟨ra, rc, rfl⟩ := own_slice R1
      by_cases hL : L = []
      · subst hL
        clear R1
        go_wp2_with fail
        go_roundw
        case rel => exact ⟨j + 1, us, by go_num, by omega, by rw [unhide hsn]; simpa [Hid] using unhide hPI2, b8⟩
        case measure => simp [intOf]; omega
      · have hLne : L ≠ [] := hL
        have hLp : (0 : Int) < (L.length : Int) := by have := List.length_pos_iff.2 hL; omega
        have hl72' : (L.length : Int) ≤ 72 := by omega
        rw [if_neg hLne] at hsn
        have HR1 := hide R1
        clear hL hLne R1
        have N1 : z1.ownsRow w3.heap.size 3 1 u4 P.length (P.map fun p => I64 (p.1 : Int)) := by have := (unhide hPI2).ns; simpa [Ints, Function.comp_def] using this
        have N2 : Hid (z1.ownsRow w3.heap.size 31 1 u5 P.length us) := by have := (unhide hPI2).rr.row; simpa [Hid] using this
        have N3 : Hid (∀ k, u4.ownBlock = some k → u5.ownBlock ≠ some k) := fun k hk => own_apart (unhide hPI2).ns (unhide hPI2).rr.row (show (3 : Nat) ≠ 31 by decide) hk
        generalize hLL : L.length = LL at *
        have hsz := b8.size
        go_wp2_with (at_builtin; refine wpList_append_own_at _ rfl (.tmp 33) (.tmp 35) 31 rfl w3.heap.size 3 i0 (.int .i64 0) 1 8 Tryz.underlying31 hi0 hz0 hz1 hz2 rfl (by decide) u4 P.length _ rfl (own_alloc' N1 _) ⟨z1.heap.size, 0, none⟩ 1 1 [_] rfl rfl (cell_one_new _ _ _) ?c2 ?c3 ?c4 ?c5 ?nx)
        case c2 => intro u hu; simp at hu; subst hu; rfl
        case c3 => unfold maxLen; omega
        case c4 => omega
        case c5 => simp; omega
        case nx =>
          intro nv' w4 hown' hgrow _ hpl4
          have f1 : Fr u4.ownBlock.toList z1 w4 := ((Fr.refl _ z1).alloc _).tr (Fr.ofGrown hgrow)
          have N4 : w4.ownsRow w3.heap.size 31 1 u5 P.length us := own_keep (unhide N2) (fun k hk => f1.block k (World.ownsRow.lt (unhide N2) k hk).2 (fun c => unhide N3 k (by simpa using c) hk))
          have hs4 : w3.heap.size ≤ w4.heap.size := Nat.le_trans hsz f1.size
          have HF1 := hide f1
          have HG := hide (And.intro hown' (And.intro hgrow hpl4))
          clear hown' hgrow hpl4 f1 N1
          go_wp2_with (at_builtin; refine wpList_append_own_at _ rfl (.tmp 37) (.tmp 39) 76 rfl w3.heap.size 31 j0 (.slice none 0 0) 1 24 Tryz.underlying76 hj0 hy0 hy1 hy2 rfl (by decide) u5 P.length _ rfl (own_alloc' N4 _) ⟨w4.heap.size, 0, none⟩ 1 1 [_] rfl rfl (cell_one_new _ _ _) ?d2 ?d3 ?d4 ?d5 ?ny)
          case d2 => intro u hu; simp at hu; subst hu; rfl
          case d3 => unfold maxLen; omega
          case d4 => omega
          case d5 => simp; omega
          case ny =>
            intro ov' w5 hown2 hgrow2 _ hpl5
            obtain ⟨hown', hgrow, hpl4⟩ := unhide HG
            have R1w : Ints w3.heap.size z1 (.slice ra LL rc) L := by
              have := (unhide HR1).mono (show w3.heap.size ≤ wr.drew.heap.size from bd.size); exact this
            have hPI3 : PI w3.heap.size w5 nv' ov' (P ++ [(y, L)]) (us ++ [.slice ra LL rc]) :=
              (unhide hPI2).push R1w (fun k hk c => by have := unhide hnew k hk; have := ((unhide HO).rr.lt c).2; omega) (fun k hk c => by have := unhide hnew k hk; have := (World.ownsRow.lt (unhide HO).ns k c).2; omega) hown' hgrow (by simpa using hpl4) hown2 hgrow2
            have b9 : Below w3.heap.size w3 w5 := by
              have q1 : Below w3.heap.size w3 w4 := Fr.toBase b8 (unhide HF1) (fun k hk => (World.ownsRow.lt (unhide HO).ns k (by simpa using hk)).1)
              exact Fr.toBase q1 (((Fr.refl _ w4).alloc _).tr (Fr.ofGrown hgrow2)) (fun k hk => (World.ownsRow.lt N4 k (by simpa using hk)).1)
            have HPI3 := hide hPI3
            clear hPI3 hown2 hgrow2 hpl5 R1w hown' hgrow hpl4 HG N4 HR1 hPI2 HO
            go_wp2_with fail
            go_roundw
            case rel => exact ⟨j + 1, _, by go_num, by omega, by rw [unhide hsn]; exact HPI3, b9⟩
            case measure => simp [intOf]; omega
    · have hie : j = M := by omega
      subst hie
      have hE : Hid (PI w3.heap.size wr u4 u5 (prs T i) us) := by
        unfold Hid; rw [unhide HP]
        have e : (U.zip D).take j = U.zip D := List.take_of_length_le (by have := unhide HM; simp; omega)
        have := unhide hPI; rw [e] at this; exact this
      have hs3 := b5.size
      clear hPI
      go_wp2_with fail
      go_ret2
      exact ⟨_, _, _, rfl, (unhide hE).mono (by omega), hbw⟩
end Go.Proofs.YtaanacnloljlmaaGreatDoor

/- The contracts of Resolution and Path. -/
namespace Go.Proofs.YtaanacnloljlmaaGreatDoor
open Go.RowKit Go.Maps

def resE (T : List Nd) (x : Int) : Int := if mayB T = false then 1 else if x < 0 ∨ (T.length : Int) ≤ x then 7 else 0
theorem mayB_okn {T : List Nd} (h : mayB T = true) (h0 : 0 < T.length) : Ok T := by
  rcases mayB_ok h with rfl | h
  · simp at h0
  · exact h
theorem nlv_pos {T : List Nd} (h : 0 < nlv T) : 0 < T.length := by unfold nlv at h; omega
set_option maxRecDepth 100000 in
set_option maxHeartbeats 1000000 in
theorem resolutionX_any {w : World} {v : Value} {T : List Nd} (h : Trd w v T) (hT : Tab w) (x : Int) :
    Calls Tryz.prog 22 #[.agg #[v], .int .i64 x] w fun e w' => ∃ r, e = .returned (.tuple #[r, .int .i64 (resE T x)]) ∧ Ints w.heap.size w' r (if resE T x = 0 then rsl T x.toNat else []) ∧ Below w.heap.size w w' := by
  have K := mayBe_any (h.bw (bwA w (.cells #[v] 24))) (hT.bw (bwA _ _))
  have KR : Hid (∀ W, mayB T = true → 0 ≤ x → x < (T.length : Int) → Below w.heap.size w W → Calls Tryz.prog 151 #[.agg #[v], .int .i64 x] W fun e w' => ∃ r, e = .returned r ∧ Ints W.heap.size w' r (rsl T x.toNat) ∧ Below W.heap.size W w') := fun W q h1 h2 hW => by
    have ok := mayB_okn q (by omega)
    obtain ⟨g1, g2, g3, g4, g5⟩ := ok.wd.facts
    obtain ⟨n, rfl⟩ : ∃ n : Nat, x = n := ⟨x.toNat, by omega⟩
    exact resolution_at ok.wd ok.sm n (by omega) (h.bw hW) (hT.bw hW)
  obtain ⟨a, c, rfl⟩ := h.slice
  have hl : (T.length : Int) ≤ 140737488355328 := by have := h.len; omega
  obtain ⟨E, hE⟩ : ∃ E, E = resE T x := ⟨_, rfl⟩
  rw [← hE]
  unfold resE at hE
  have HE := hide hE
  clear h hT hE
  generalize mayB T = p at *
  generalize T.length = N at *
  generalize rsl T x.toNat = L at *
  go_enter Tryz.func22, Tryz.ntmps22
  go_wp2_with fail
  refine K.mono ?_
  rintro e w1 ⟨rfl, b1⟩
  have c1 := bx_cell b1
  have b2 := bx_bel b1
  cases p
  · obtain rfl : E = 1 := by rw [unhide HE]; simp
    clear KR HE
    go_wp2
    go_ret2
    exact ⟨_, rfl, ints_nil _ _, b2⟩
  · by_cases g1 : x < 0
    · obtain rfl : E = 7 := by rw [unhide HE]; simp [g1]
      clear KR HE
      go_wp2
      go_ret2
      exact ⟨_, rfl, ints_nil _ _, b2⟩
    · have g1' : decide (x < 0) = false := decide_eq_false g1
      by_cases g2 : (N : Int) ≤ x
      · obtain rfl : E = 7 := by rw [unhide HE]; simp [g2]
        clear KR HE
        go_wp2
        go_ret2
        exact ⟨_, rfl, ints_nil _ _, b2⟩
      · have g2' : decide ((N : Int) ≤ x) = false := decide_eq_false g2
        obtain rfl : E = 0 := by rw [unhide HE]; simp [g1, g2]
        have KR2 := unhide KR w1 rfl (by omega) (by omega) b2
        have hsz := b2.size
        clear KR HE
        go_wp2_with fail
        refine KR2.mono ?_
        rintro e w3 ⟨r, rfl, hr, b3⟩
        go_wp2
        go_ret2
        exact ⟨_, rfl, by simpa using hr.mono hsz, bw_tr b2 b3⟩
set_option maxRecDepth 100000 in
set_option maxHeartbeats 1000000 in
theorem pathX_any {w : World} {v : Value} {T : List Nd} (h : Trd w v T) (hT : Tab w) (i : Int) :
    Calls Tryz.prog 23 #[.agg #[v], .int .i64 i] w fun e w' => ∃ r, e = .returned (.tuple #[r, .int .i64 (askE T i)]) ∧ Ints w.heap.size w' r (if askE T i = 0 then pth T i.toNat else []) ∧ Below w.heap.size w w' := by
  have K := mayBe_any (h.bw (bwA w (.cells #[v] 24))) (hT.bw (bwA _ _))
  have KH : Hid (∀ W, mayB T = true → Below w.heap.size w W → Calls Tryz.prog 152 #[.agg #[v], .int .i64 i] W fun e w' => e = .returned (.bool (hasL T i)) ∧ Below W.heap.size W w') := fun W q hW => hasLeaf_any (h.bw hW) (mayB_15 q).1 i
  have KP : Hid (∀ W, mayB T = true → hasL T i = true → Below w.heap.size w W → Calls Tryz.prog 153 #[.agg #[v], .int .i64 i] W fun e w' => ∃ nv ov us, e = .returned (.tuple #[nv, ov]) ∧ PI W.heap.size w' nv ov (prs T i.toNat) us ∧ Below W.heap.size W w') := fun W q q2 hW => by
    have h0 : 0 ≤ i := by
      apply Decidable.byContradiction; intro c; unfold hasL at q2; rw [decide_eq_false c] at q2; simp at q2
    obtain ⟨n, rfl⟩ : ∃ n : Nat, i = n := ⟨i.toNat, by omega⟩
    obtain ⟨h1, h2⟩ := hasL_pos q2
    have ok := mayB_okn q (nlv_pos (by omega))
    exact path_any (h.bw hW) ok.wd ok.sm (hT.bw hW) h1
  obtain ⟨E, hE⟩ : ∃ E, E = askE T i := ⟨_, rfl⟩
  rw [← hE]
  unfold askE at hE
  have HE := hide hE
  have HPth : Hid (pth T i.toNat = (prs T i.toNat).map fun p => (p.1 : Int)) := rfl
  clear h hT hE
  generalize mayB T = p at *
  generalize hasL T i = q at *
  generalize pth T i.toNat = L at *
  generalize prs T i.toNat = PP at *
  go_enter Tryz.func23, Tryz.ntmps23
  go_wp2_with fail
  refine K.mono ?_
  rintro e w1 ⟨rfl, b1⟩
  have c1 := bx_cell b1
  have b2 := bx_bel b1
  cases p
  · obtain rfl : E = 1 := by rw [unhide HE]; simp
    clear KH KP HE
    go_wp2
    go_ret2
    exact ⟨_, rfl, ints_nil _ _, b2⟩
  · have KH2 := unhide KH w1 rfl b2
    have KP1 := hide (fun W => unhide KP W rfl)
    clear KH KP
    go_wp2_with fail
    refine KH2.mono ?_
    rintro e w2 ⟨rfl, b3⟩
    have b4 := bw_tr b1 b3
    have c2 := bx_cell b4
    have b5 := bx_bel b4
    cases q
    · obtain rfl : E = 7 := by rw [unhide HE]; simp
      clear KP1 HE KH2
      go_wp2
      go_ret2
      exact ⟨_, rfl, ints_nil _ _, b5⟩
    · obtain rfl : E = 0 := by rw [unhide HE]; simp
      have KP2 := unhide KP1 w2 rfl b5
      have hsz := b5.size
      clear KP1 HE KH2 c1
      go_wp2_with fail
      refine KP2.mono ?_
      rintro e w3 ⟨nv, ov, us, rfl, hPI, b6⟩
      have hr := hPI.ns
      rw [← unhide HPth] at hr
      clear hPI HPth
      go_wp2
      go_ret2
      exact ⟨_, rfl, by simpa using hr.mono hsz, bw_tr b5 b6⟩
end Go.Proofs.YtaanacnloljlmaaGreatDoor

/- The contracts of the document's Check and Size. -/
namespace Go.Proofs.YtaanacnloljlmaaGreatDoor
open Go.RowKit Go.Maps

theorem ndM_even (T : List Nd) (x : Nat) (hev : x % 2 = 0) {p m e : Int} {l : List Int} (hp : (ndAt T x).pub = p) (hm : (ndAt T x).mem = m) (he : (ndAt T x).ep = e) (hl : (ndAt T x).un = l) : ndM T x = leafB p m e l.length := by
  rw [ndM_def T x hp hm he hl]
  have hemp : l.isEmpty = ((l.length : Int) == 0) := by cases l <;> simp <;> omega
  rw [hemp, if_pos hev]
  unfold leafB blkB
  by_cases k0 : p = 0
  · subst k0; simp
  · have k1 : (p == 0) = false := by simp [k0]
    rw [if_neg k0, k1]
    by_cases k2 : p < 0
    · rw [if_pos k2, decide_eq_false (show ¬ 0 < p by omega)]; simp
    · rw [if_neg k2, decide_eq_true (show 0 < p by omega)]; simp
theorem mayB_of {T : List Nd} (hw : Wd T) : mayB T = ((List.range T.length).all (ndM T) && decide (mems T).Nodup && anyM T (nlv T / 2) (nlv T)) := by
  obtain ⟨g1, g2, g3, g4, g5⟩ := hw.facts
  unfold mayB
  have h0 : T.isEmpty = false := by cases T with | nil => simp [nlv] at g5 | cons a b => rfl
  have h1 : wid (nlv T : Nat) = (T.length : Nat) := by
    have : ∀ n ∈ sizes, wid (n : Nat) = ((2 * n - 1 : Nat) : Int) := by decide +kernel
    rw [this _ g1, ← g2]
  rw [h0, decide_eq_true g4, decide_eq_true h1]; simp
theorem mayB_rlv {T : List Nd} (h0 : T.length ≠ 0) (h : rlv T.length = 0) : mayB T = false := by
  cases hm : mayB T
  · rfl
  · rcases mayB_wd hm with rfl | hw
    · simp at h0
    · obtain ⟨g1, g2, g3, g4, g5⟩ := hw.facts
      have := rlv_of g1
      rw [← g2, h] at this
      omega
theorem anyM_from {T : List Nd} {a n : Nat} (h : anyM T a n = true) : anyM T 0 n = true := by
  unfold anyM at *
  rw [List.any_eq_true] at *
  obtain ⟨x, hx, h2⟩ := h
  refine ⟨x, hx, ?_⟩
  simp only [Bool.and_eq_true] at h2
  simp [h2.2]
set_option maxRecDepth 100000 in
set_option maxHeartbeats 2000000 in
theorem rcheck_any {w : World} {v : Value} {T : List Nd} (h : Trd w v T) :
    Calls Tryz.prog 14 #[.agg #[v]] w fun e w' => e = .returned (.int .i64 (if mayB T = true then 0 else 1)) ∧ Below w.heap.size w w' := by
  obtain ⟨r, hr⟩ : ∃ r : Int, r = if mayB T = true then 0 else 1 := ⟨_, rfl⟩
  rw [← hr]
  obtain ⟨a, c, rfl⟩ := h.slice
  obtain ⟨w0, hw0⟩ : ∃ w0, w0 = bxw w (.slice a T.length c) := ⟨_, rfl⟩
  have hb0 : Below w.heap.size w w0 := by rw [hw0]; exact bwA _ _
  have HBX : Hid (∀ W, Below w0.heap.size w0 W → W.cell? ⟨w.heap.size, 0, none⟩ = some (.slice a T.length c) ∧ Below w.heap.size w W) := fun W hW => by subst hw0; exact ⟨bx_cell hW, bx_bel hW⟩
  have HW : Hid (w0 = w.alloc (.cells #[.slice a T.length c] 24)) := hw0
  have hlen := h.len
  have KL : Hid (Calls Tryz.prog 41 #[.agg #[.slice a T.length c]] w0 fun e w' => e = .returned (.int .i64 (rlv T.length : Nat)) ∧ Below w0.heap.size w0 w') := rleaves_any a T.length c w0 hlen
  by_cases h0 : T.length = 0
  · obtain rfl : T = [] := List.eq_nil_of_length_eq_zero h0
    obtain rfl : r = 0 := by rw [hr]; rfl
    clear KL hr h hw0 h0
    go_enter Tryz.func14, Tryz.ntmps14
    go_wp2_with fail
    go_ret
    exact ⟨rfl, bwA _ _⟩
  · have hN0 : decide ((T.length : Int) = 0) = false := decide_eq_false (by omega)
    have hN1 : ((T.length : Int) == 0) = false := beq_eq_false_iff_ne.2 (by omega)
    have hN2 : decide (T.length = 0) = false := decide_eq_false h0
    by_cases hl : rlv T.length = 0
    · obtain rfl : r = 1 := by rw [hr, mayB_rlv h0 hl]; rfl
      rw [hl] at KL
      have hlI : (T.length : Int) ≤ 140737488355328 := by omega
      clear hr h hw0 hlen hl
      generalize T.length = N at *
      go_enter Tryz.func14, Tryz.ntmps14
      go_wp2_with fail
      rw [← unhide HW]
      refine (unhide KL).mono ?_
      rintro e w1 ⟨rfl, b1⟩
      go_wp2
      go_ret
      exact ⟨rfl, bw_tr hb0 b1⟩
    · obtain ⟨l1, l2, l3⟩ := rlv_wd hl
      have hw : Wd T := ⟨_, l2, l3⟩
      obtain ⟨g1, g2, g3, g4, g5⟩ := hw.facts
      rw [l1] at KL
      rw [mayB_of hw] at hr
      have HR := hide hr
      have KX : Hid (∀ x W, x < T.length → x % 2 = 1 → Below w.heap.size w W → Calls Tryz.prog 43 #[.agg #[.slice a T.length c], .int .i64 (x : Int)] W fun e w' => e = .returned (.bool (ndM T x)) ∧ Below W.heap.size W w') := fun x W hx ho hW => rpar8_any (h.bw hW) hw hx ho
      have KT : Hid (∀ W, Below w.heap.size w W → Calls Tryz.prog 44 #[.agg #[.slice a T.length c]] W fun e w' => e = .returned (.bool (!decide (mems T).Nodup)) ∧ Below W.heap.size W w') := fun W hW => rtwice_any (h.bw hW) g3
      have KS : Hid (∀ (f : Nat) W, f ≤ nlv T → Below w.heap.size w W → Calls Tryz.prog 45 #[.agg #[.slice a T.length c], .int .i64 (f : Int)] W fun e w' => e = .returned (.bool (anyM T f (nlv T))) ∧ Below W.heap.size W w') := fun f W hf hW => rsome_any (h.bw hW) g3 f hf
      obtain ⟨-, h2⟩ := h.at
      obtain ⟨b, o, rfl, h3⟩ := h2 (by omega)
      have KE : Hid (∀ x, x < T.length → x % 2 = 0 → ∃ p m e : Int, ∃ ua ul uc, (∀ W, Below w.heap.size w W → W.cell? ⟨b, o + x * 4, none⟩ = some (.int .i64 p) ∧ W.cell? ⟨b, o + x * 4 + 1, none⟩ = some (.int .i64 m) ∧ W.cell? ⟨b, o + x * 4 + 2, none⟩ = some (.int .i64 e) ∧ W.cell? ⟨b, o + x * 4 + 3, none⟩ = some (.slice ua ul uc)) ∧ ∀ W, Calls Tryz.prog 42 #[.agg #[.int .i64 p, .int .i64 m, .int .i64 e, .slice ua ul uc]] W fun e w' => e = .returned (.bool (ndM T x)) ∧ Below W.heap.size W w') := fun x hx he => by
        obtain ⟨u, k1, k2⟩ := h3 w (Below.refl _ _) x hx
        obtain ⟨ua, uc, rfl⟩ := nums_slice k2
        have hB : b < w.heap.size := lt_of_cell k1.c3
        refine ⟨_, _, _, ua, _, uc, fun W hW => ⟨(k1.bw hB hW).c0, (k1.bw hB hW).c1, (k1.bw hB hW).c2, (k1.bw hB hW).c3⟩, fun W => ?_⟩
        rw [ndM_even T x he rfl rfl rfl rfl]
        exact rleaf_any _ _ _ _ _ _ W (by have := h.unl _ (ndAt_mem hx); omega)
      have g5' : ((nlv T : Nat) : Int) ≠ 0 := by omega
      have hn0 : decide (((nlv T : Nat) : Int) = 0) = false := decide_eq_false g5'
      have hn1 : (((nlv T : Nat) : Int) == 0) = false := beq_eq_false_iff_ne.2 (by omega)
      have hn2 : decide (nlv T = 0) = false := decide_eq_false (by omega)
      have hn8 : ((nlv T : Nat) : Int) ≤ 8 := by omega
      have hN15 : (T.length : Int) ≤ 15 := by omega
      have HA1 : Hid (∀ x, x < T.length → ndM T x = false → r = 1) := fun x hx hf => by
        rw [unhide HR]
        have : (List.range T.length).all (ndM T) = false := by
          rw [List.all_eq_false]; exact ⟨x, List.mem_range.2 hx, by simp [hf]⟩
        rw [this]; rfl
      have HA2 : Hid ((∀ x, x < T.length → ndM T x = true) → r = if (decide (mems T).Nodup && anyM T (nlv T / 2) (nlv T)) = true then 0 else 1) := fun hx => by
        rw [unhide HR]
        have : (List.range T.length).all (ndM T) = true := List.all_eq_true.2 fun x hx' => hx x (List.mem_range.1 hx')
        rw [this]; simp
      have HA3 : Hid (anyM T (nlv T / 2) (nlv T) = true → anyM T 0 (nlv T) = true) := anyM_from
      obtain ⟨n2, hn2'⟩ : ∃ n2, n2 = nlv T / 2 := ⟨_, rfl⟩
      rw [← hn2'] at HA2 HA3
      have q2 : ((nlv T : Nat) : Int) / 2 = (n2 : Int) := by omega
      have q2' : Hid (n2 ≤ nlv T ∧ (nlv T = 1 → n2 = 0)) := ⟨by omega, by omega⟩
      have HN := hide g5
      clear hr h h2 h3 hw0 hlen hl l1 l2 l3 hw g1 g2 g3 g4 g5 g5' HR h0 hn2'
      generalize hnn : nlv T = n at *
      clear hnn
      generalize hNN : T.length = N at *
      clear hNN
      generalize decide (mems T).Nodup = nd at *
      go_enter Tryz.func14, Tryz.ntmps14
      go_wp2_with fail
      rw [← unhide HW]
      refine (unhide KL).mono ?_
      rintro e w1 ⟨rfl, b1⟩
      clear KL HW
      go_wp2_with fail
      go_loopw [4] (fun iv wr => ∃ i : Nat, iv = .int .i64 (i : Int) ∧ i ≤ N ∧ Hid (∀ x, x < i → ndM T x = true) ∧ Below w0.heap.size w0 wr) (fun iv _ => (N - (intOf iv)).toNat)
      case atStart => exact ⟨0, rfl, by omega, fun x hx => by omega, b1⟩
      case round =>
        clear b1
        obtain ⟨i, rfl, hi, hall, hbel⟩ := hrel
        obtain ⟨c0, hbw⟩ := unhide HBX _ hbel
        by_cases hin : i < N
        · have q1 : (i : Int) < (N : Int) := by omega
          have q0 : (0 : Int) ≤ (i : Int) := by omega
          have HS : Hid (ndM T i = true → ∀ x, x < i + 1 → ndM T x = true) := fun q x hx => by
            rcases Nat.lt_or_ge x i with c | c
            · exact unhide hall x c
            · obtain rfl : x = i := by omega
              exact q
          have HF := hide (unhide HA1 i hin)
          by_cases hev : i % 2 = 0
          · obtain ⟨p, m, e, ua, ul, uc, hcs, hK⟩ := unhide KE i hin hev
            obtain ⟨e0, e1, e2, e3⟩ := hcs _ hbw
            have v1 : (i : Int) % 2 = 0 := by omega
            clear hcs hev
            generalize ndM T i = nm at *
            go_wp2_with fail
            refine (hK _).mono ?_
            rintro x w2 ⟨rfl, b2⟩
            have hbel2 := bw_tr hbel b2
            obtain ⟨c0', hbw2⟩ := unhide HBX _ hbel2
            clear e0 e1 e2 e3 c0
            cases nm
            · obtain rfl : r = 1 := unhide HF rfl
              clear hK
              go_wp2_with fail
              go_ret
              exact ⟨rfl, hbw2⟩
            · have HS2 := hide (unhide HS rfl)
              clear hK HS HF
              go_wp2_with fail
              go_roundw
              case rel => exact ⟨i + 1, by go_num, by omega, HS2, hbel2⟩
              case measure => simp [intOf]; omega
          · have K := unhide KX i wr hin (by omega) hbw
            have v1 : (i : Int) % 2 = 1 := by omega
            clear hev
            generalize ndM T i = nm at *
            go_wp2_with fail
            refine K.mono ?_
            rintro x w2 ⟨rfl, b2⟩
            have hbel2 := bw_tr hbel b2
            obtain ⟨c0', hbw2⟩ := unhide HBX _ hbel2
            cases nm
            · obtain rfl : r = 1 := unhide HF rfl
              clear K
              go_wp2_with fail
              go_ret
              exact ⟨rfl, hbw2⟩
            · have HS2 := hide (unhide HS rfl)
              clear K HS HF
              go_wp2_with fail
              go_roundw
              case rel => exact ⟨i + 1, by go_num, by omega, HS2, hbel2⟩
              case measure => simp [intOf]; omega
        · obtain rfl : i = N := by omega
          have hr2 := unhide HA2 (unhide hall)
          have HR2 := hide hr2
          clear hr2 hall HA1 HA2 KE KX
          go_wp2_with fail
          refine (unhide KT _ hbw).mono ?_
          rintro x w2 ⟨rfl, b2⟩
          have hbel2 := bw_tr hbel b2
          obtain ⟨c0', hbw2⟩ := unhide HBX _ hbel2
          cases nd
          · obtain rfl : r = 1 := by rw [unhide HR2]; rfl
            go_wp2_with fail
            go_ret
            exact ⟨rfl, hbw2⟩
          · have K0 := unhide KS 0 w2 (by omega) hbw2
            have HE : Hid (n = 1 → anyM T n2 n = anyM T 0 n) := fun q => by rw [(unhide q2').2 q]
            generalize anyM T 0 n = s0 at *
            go_wp2_with fail
            refine K0.mono ?_
            rintro x w3 ⟨rfl, b3⟩
            have hbel3 := bw_tr hbel2 b3
            obtain ⟨c0'', hbw3⟩ := unhide HBX _ hbel3
            clear c0 c0'
            cases s0
            · obtain rfl : r = 1 := by
                rw [unhide HR2]
                cases hq : anyM T n2 n
                · rfl
                · exact absurd (unhide HA3 hq) (by simp)
              clear K0
              go_wp2_with fail
              go_ret
              exact ⟨rfl, hbw3⟩
            · clear K0
              by_cases h1 : n = 1
              · obtain rfl : r = 0 := by rw [unhide HR2, unhide HE h1]; rfl
                have h1' : decide ((1 : Int) < (n : Int)) = false := decide_eq_false (by omega)
                have h2' : decide (1 < n) = false := decide_eq_false (by omega)
                have h3' : ¬ (1 < n) := by omega
                clear h1
                go_wp2_with fail
                go_ret
                exact ⟨rfl, hbw3⟩
              · have h1' : (1 : Int) < (n : Int) := by have := unhide HN; omega
                have K2 := unhide KS n2 w3 (unhide q2').1 hbw3
                generalize anyM T n2 n = s2 at *
                go_wp2_with fail
                refine K2.mono ?_
                rintro x w4 ⟨rfl, b4⟩
                have hbel4 := bw_tr hbel3 b4
                obtain ⟨-, hbw4⟩ := unhide HBX _ hbel4
                cases s2
                · obtain rfl : r = 1 := by rw [unhide HR2]; rfl
                  go_wp2_with fail
                  go_ret
                  exact ⟨rfl, hbw4⟩
                · obtain rfl : r = 0 := by rw [unhide HR2]; rfl
                  go_wp2_with fail
                  go_ret
                  exact ⟨rfl, hbw4⟩
set_option maxHeartbeats 1000000 in
theorem rsize_any {w : World} {v : Value} {T : List Nd} (h : Trd w v T) :
    Calls Tryz.prog 15 #[.agg #[v]] w fun e w' => e = .returned (.int .i64 (if mayB T = true then (nlv T : Nat) else 0)) ∧ Below w.heap.size w w' := by
  have K := rcheck_any (h.bw (bwA w (.cells #[v] 24)))
  obtain ⟨a, c, rfl⟩ := h.slice
  have KL : ∀ W, _ := fun W => rleaves_any a T.length c W h.len
  have HV : Hid (mayB T = true → rlv T.length = nlv T) := fun q => by
    rcases mayB_wd q with rfl | hw
    · rfl
    · obtain ⟨g1, g2, -⟩ := hw.facts
      have := rlv_of g1
      rw [← g2] at this
      exact this
  generalize mayB T = r at *
  clear h
  generalize T.length = N at *
  go_enter Tryz.func15, Tryz.ntmps15
  go_wp2_with fail
  refine K.mono ?_
  rintro e w1 ⟨rfl, b1⟩
  have c1 := bx_cell b1
  cases r
  · go_wp2
    go_ret
    exact ⟨rfl, bx_bel b1⟩
  · rw [unhide HV rfl] at KL
    go_wp2_with fail
    refine (KL _).mono ?_
    rintro e w2 ⟨rfl, b2⟩
    go_wp2
    go_ret
    exact ⟨rfl, bw_tr (bx_bel b1) b2⟩
end Go.Proofs.YtaanacnloljlmaaGreatDoor

/- The contracts of the document's Members and Find. -/
namespace Go.Proofs.YtaanacnloljlmaaGreatDoor
open Go.RowKit Go.Maps

set_option maxRecDepth 100000 in
set_option maxHeartbeats 2000000 in
theorem rmembers_any {w : World} {v : Value} {T : List Nd} (h : Trd w v T) :
    Calls Tryz.prog 13 #[.agg #[v]] w fun e w' => ∃ r, e = .returned r ∧ Ints w.heap.size w' r (if mayB T = true then mems T else []) ∧ Below w.heap.size w w' := by
  obtain ⟨i0, hi, hz0, hz1, hz2⟩ := info_parts Tryz.infoInt
  obtain ⟨a, c, rfl⟩ := h.slice
  obtain ⟨w0, hw0⟩ : ∃ w0, w0 = bxw w (.slice a T.length c) := ⟨_, rfl⟩
  have hb0 : Below w.heap.size w w0 := by rw [hw0]; exact bwA _ _
  have HBX : Hid (∀ W, Below w0.heap.size w0 W → W.cell? ⟨w.heap.size, 0, none⟩ = some (.slice a T.length c) ∧ Below w.heap.size w W) := fun W hW => by subst hw0; exact ⟨bx_cell hW, bx_bel hW⟩
  have HW : Hid (w0 = w.alloc (.cells #[.slice a T.length c] 24)) := hw0
  have HS0 : Hid (w0.heap.size = w.heap.size + 1) := by unfold Hid; rw [hw0]; simp
  have K := hide (rcheck_any (h.bw hb0))
  obtain ⟨-, h2⟩ := h.at
  have HC : Hid (∀ x, x < T.length → ∃ b o, a = some ⟨b, o, none⟩ ∧ ∀ W, Below w.heap.size w W → W.cell? ⟨b, o + x * 4, none⟩ = some (.int .i64 (ndAt T x).pub) ∧ W.cell? ⟨b, o + x * 4 + 1, none⟩ = some (.int .i64 (ndAt T x).mem)) := fun x hx => by
    obtain ⟨b, o, e, h3⟩ := h2 (by omega)
    exact ⟨b, o, e, fun W hW => by obtain ⟨u, k, _⟩ := h3 W hW x hx; exact ⟨k.c0, k.c1⟩⟩
  have H15 : Hid (mayB T = true → T.length ≤ 15) := fun q => (mayB_15 q).1
  have HL : Hid (∀ i, i < nlv T → memsOf ((lvs T).take (i + 1)) = memsOf ((lvs T).take i) ++ if pos (ndAt T (2 * i)) = true then [(ndAt T (2 * i)).mem] else []) := fun i hi => by rw [lvs_take hi, memsOf_snoc]
  have HE : Hid (memsOf ((lvs T).take (nlv T)) = mems T) := by unfold Hid mems; rw [← lvs_len, List.take_length]
  have HN : Hid (nlv T = (T.length + 1) / 2) := rfl
  have HM : Hid (∀ i, (memsOf ((lvs T).take i)).length ≤ i) := fun i => Nat.le_trans (memsOf_len _) (by simp; omega)
  clear h h2 hw0
  generalize hmb : mayB T = mb at *
  clear hmb
  generalize hnn : nlv T = n at *
  clear hnn
  generalize hNN : T.length = N at *
  clear hNN
  cases mb
  · simp only [Bool.false_eq_true, if_false] at K ⊢
    clear HC HL HE HM H15 hi hz0 hz1 hz2
    go_enter Tryz.func13, Tryz.ntmps13
    go_wp2_with fail
    rw [← unhide HW]
    refine (unhide K).mono ?_
    rintro e w1 ⟨rfl, b1⟩
    go_wp2
    go_ret
    exact ⟨_, rfl, ints_nil _ _, bw_tr hb0 b1⟩
  · simp only [if_true] at K ⊢
    have h15 : (N : Int) ≤ 15 := by have := unhide H15 rfl; omega
    go_enter Tryz.func13, Tryz.ntmps13
    go_wp2_with fail
    rw [← unhide HW]
    refine (unhide K).mono ?_
    rintro e w1 ⟨rfl, b1⟩
    clear K HW
    go_wp2_with fail
    go_loopw [3, 4] (fun lv iv wr => ∃ i x : Nat, iv = .int .i64 (x : Int) ∧ Hid (x = 2 * i ∧ i ≤ n) ∧ Ints w0.heap.size wr lv (memsOf ((lvs T).take i)) ∧ Below w0.heap.size w0 wr) (fun _ iv _ => (N + 2 - (intOf iv)).toNat)
    case atStart => exact ⟨0, 0, rfl, ⟨rfl, by omega⟩, ints_nil _ _, b1⟩
    case round =>
      obtain ⟨i, x, rfl, hx, hown, hbel⟩ := hrel
      obtain ⟨c0, hbw⟩ := unhide HBX _ hbel
      clear b1
      by_cases hin : x < N
      · have q1 : (x : Int) < (N : Int) := by omega
        have q0 : (0 : Int) ≤ (x : Int) := by omega
        obtain ⟨b, o, rfl, hC⟩ := unhide HC x hin
        obtain ⟨e0, e1⟩ := hC _ hbw
        have hlen : (memsOf ((lvs T).take i)).length ≤ 8 := by have := unhide HM i; have := unhide hx; have := unhide HN; omega
        have HL2 : Hid (memsOf ((lvs T).take (i + 1)) = memsOf ((lvs T).take i) ++ if pos (ndAt T x) = true then [(ndAt T x).mem] else []) := by
          have h1 := unhide HL i (by have := unhide hx; have := unhide HN; omega)
          rw [← (unhide hx).1] at h1
          exact h1
        have HX2 : Hid (x + 2 = 2 * (i + 1) ∧ i + 1 ≤ n) := by have := unhide hx; have := unhide HN; exact ⟨by omega, by omega⟩
        clear hx hC
        generalize memsOf ((lvs T).take i) = cur at *
        by_cases k : (ndAt T x).pub = 0
        · have HL3 : Hid (memsOf ((lvs T).take (i + 1)) = cur) := by unfold Hid; rw [unhide HL2]; simp [pos, k]
          rw [k] at e0
          clear k HL2
          go_wp2_with fail
          go_roundw
          case rel => exact ⟨i + 1, x + 2, by go_num, HX2, by rw [unhide HL3]; exact hown, hbel⟩
          case measure => simp [intOf]; omega
        · have HL3 : Hid (memsOf ((lvs T).take (i + 1)) = cur ++ [(ndAt T x).mem]) := by unfold Hid; rw [unhide HL2]; simp [pos, k]
          generalize (ndAt T x).pub = p at *
          have k1 : (p != 0) = true := by simp [k]
          have k2 : decide (p = 0) = false := by simp [k]
          have k3 : (p == 0) = false := by simp [k]
          generalize (ndAt T x).mem = m at *
          have hsz := hbel.size
          clear k HL2
          go_wp2_with (at_builtin; refine wpList_append_own _ rfl (.tmp 22) (.tmp 29) 31 rfl w0.heap.size 3 i0 (.int .i64 0) 1 8 Tryz.underlying31 hi hz0 hz1 hz2 rfl (by decide) _ cur.length _ rfl (World.ownsRow.alloc hown _) ⟨wr.heap.size, 0, none⟩ 1 1 [_] rfl rfl (cell_one_new _ _ _) ?c2 ?c3 ?c4 ?c5 ?nx)
          case c2 => intro u hu; simp at hu; subst hu; rfl
          case c3 => unfold maxLen; omega
          case c4 => omega
          case c5 => simp; omega
          case nx =>
            intro v' w3 hown' hgrow _
            obtain ⟨R1, R2⟩ := ints_snoc m hbel hown (by simpa using hown') hgrow
            clear hown' hgrow
            go_wp2_with fail
            go_roundw
            case rel => exact ⟨i + 1, x + 2, by go_num, HX2, by rw [unhide HL3]; exact R1, R2⟩
            case measure => simp [intOf]; omega
      · have q1 : decide ((x : Int) < (N : Int)) = false := decide_eq_false (by omega)
        have hie : i = n := by have := unhide hx; have := unhide HN; omega
        subst hie
        rw [unhide HE] at hown
        clear hx
        go_wp2_with fail
        go_ret
        exact ⟨_, rfl, hown.mono (by have := unhide HS0; omega), hbw⟩
set_option maxRecDepth 100000 in
set_option maxHeartbeats 2000000 in
theorem rfind_any {w : World} {v : Value} {T : List Nd} (h : Trd w v T) (m : Int) :
    Calls Tryz.prog 16 #[.agg #[v], .int .i64 m] w fun e w' => e = .returned (.int .i64 (if mayB T = true then fnd T m else -1)) ∧ Below w.heap.size w w' := by
  obtain ⟨a, c, rfl⟩ := h.slice
  obtain ⟨w0, hw0⟩ : ∃ w0, w0 = bxw w (.slice a T.length c) := ⟨_, rfl⟩
  have hb0 : Below w.heap.size w w0 := by rw [hw0]; exact bwA _ _
  have HBX : Hid (∀ W, Below w0.heap.size w0 W → W.cell? ⟨w.heap.size, 0, none⟩ = some (.slice a T.length c) ∧ Below w.heap.size w W) := fun W hW => by subst hw0; exact ⟨bx_cell hW, bx_bel hW⟩
  have HW : Hid (w0 = w.alloc (.cells #[.slice a T.length c] 24)) := hw0
  have K := hide (rcheck_any (h.bw hb0))
  obtain ⟨-, h2⟩ := h.at
  have HC : Hid (∀ x, x < T.length → ∃ b o, a = some ⟨b, o, none⟩ ∧ ∀ W, Below w.heap.size w W → W.cell? ⟨b, o + x * 4, none⟩ = some (.int .i64 (ndAt T x).pub) ∧ W.cell? ⟨b, o + x * 4 + 1, none⟩ = some (.int .i64 (ndAt T x).mem)) := fun x hx => by
    obtain ⟨b, o, e, h3⟩ := h2 (by omega)
    exact ⟨b, o, e, fun W hW => by obtain ⟨u, k, _⟩ := h3 W hW x hx; exact ⟨k.c0, k.c1⟩⟩
  have H15 : Hid (mayB T = true → T.length ≤ 15) := fun q => (mayB_15 q).1
  have HN : Hid (nlv T = (T.length + 1) / 2) := rfl
  have HR1 : Hid (∀ i, i < nlv T → (∀ j, j < i → hit m (ndAt T (2 * j)) = false) → hit m (ndAt T (2 * i)) = true → fnd T m = (i : Nat)) := fun i hi h1 h2 => fnd_hit hi h1 h2
  have HR2 : Hid ((∀ j, j < nlv T → hit m (ndAt T (2 * j)) = false) → fnd T m = -1) := fun h1 => fnd_none h1
  clear h h2 hw0
  generalize hmb : mayB T = mb at *
  clear hmb
  generalize hnn : nlv T = n at *
  clear hnn
  generalize hNN : T.length = N at *
  clear hNN
  generalize fnd T m = fm at *
  cases mb
  · simp only [Bool.false_eq_true, if_false] at K ⊢
    clear HC H15 HR1 HR2
    go_enter Tryz.func16, Tryz.ntmps16
    go_wp2_with fail
    rw [← unhide HW]
    refine (unhide K).mono ?_
    rintro e w1 ⟨rfl, b1⟩
    go_wp2
    go_ret
    exact ⟨rfl, bw_tr hb0 b1⟩
  · simp only [if_true] at K ⊢
    have h15 : (N : Int) ≤ 15 := by have := unhide H15 rfl; omega
    go_enter Tryz.func16, Tryz.ntmps16
    go_wp2_with fail
    rw [← unhide HW]
    refine (unhide K).mono ?_
    rintro e w1 ⟨rfl, b1⟩
    clear K HW
    go_wp2_with fail
    go_loopw [5] (fun iv wr => ∃ i x : Nat, iv = .int .i64 (x : Int) ∧ Hid (x = 2 * i ∧ i ≤ n ∧ ∀ j, j < i → hit m (ndAt T (2 * j)) = false) ∧ wr = w1) (fun iv _ => (N + 2 - (intOf iv)).toNat)
    case atStart => exact ⟨0, 0, rfl, ⟨rfl, by omega, fun j hj => by omega⟩, rfl⟩
    case round =>
      obtain ⟨i, x, rfl, hx, rfl⟩ := hrel
      obtain ⟨c0, hbw⟩ := unhide HBX _ b1
      by_cases hin : x < N
      · have q1 : (x : Int) < (N : Int) := by omega
        have q0 : (0 : Int) ≤ (x : Int) := by omega
        obtain ⟨b, o, rfl, hC⟩ := unhide HC x hin
        obtain ⟨e0, e1⟩ := hC _ hbw
        have HT : Hid (hit m (ndAt T x) = true → fm = (i : Nat)) := fun q => by
          have hx' := unhide hx
          have := unhide HN
          exact unhide HR1 i (by omega) hx'.2.2 (by rw [← hx'.1]; exact q)
        have HF : Hid (hit m (ndAt T x) = false → x + 2 = 2 * (i + 1) ∧ i + 1 ≤ n ∧ ∀ j, j < i + 1 → hit m (ndAt T (2 * j)) = false) := fun q => by
          have hx' := unhide hx
          have := unhide HN
          refine ⟨by omega, by omega, fun j hj => ?_⟩
          rcases Nat.lt_or_ge j i with c | c
          · exact hx'.2.2 j c
          · obtain rfl : j = i := by omega
            rw [← hx'.1]; exact q
        have hxi : (x : Int) / 2 = (i : Int) := by have := (unhide hx).1; omega
        have hh : hit m (ndAt T x) = (((ndAt T x).pub != 0) && ((ndAt T x).mem == m)) := rfl
        rw [hh] at HT HF
        clear hx hC hh
        generalize (ndAt T x).pub = p at *
        generalize (ndAt T x).mem = m' at *
        by_cases k : p = 0
        · have HX2 := hide (unhide HF (by simp [k]))
          subst k
          clear HT HF
          go_wp2_with fail
          go_roundw
          case rel => exact ⟨i + 1, x + 2, by go_num, HX2, by trivial⟩
          case measure => simp [intOf]; omega
        · have k1 : (p != 0) = true := by simp [k]
          have k2 : decide (p = 0) = false := by simp [k]
          have k3 : (p == 0) = false := by simp [k]
          by_cases km : m' = m
          · obtain rfl : fm = (i : Nat) := unhide HT (by simp [k, km])
            subst km
            clear HT HF k HR1 HR2
            go_wp2_with fail
            go_ret
            exact ⟨rfl, hbw⟩
          · have m1 : (m' == m) = false := by simp [km]
            have m2 : decide (m' = m) = false := by simp [km]
            have HX2 := hide (unhide HF (by simp [km]))
            clear HT HF k km
            go_wp2_with fail
            go_roundw
            case rel => exact ⟨i + 1, x + 2, by go_num, HX2, by trivial⟩
            case measure => simp [intOf]; omega
      · have q1 : decide ((x : Int) < (N : Int)) = false := decide_eq_false (by omega)
        obtain rfl : fm = -1 := unhide HR2 (by
          have hx' := unhide hx
          have := unhide HN
          intro j hj
          exact hx'.2.2 j (by omega))
        clear hx
        go_wp2_with fail
        go_ret
        exact ⟨rfl, hbw⟩
end Go.Proofs.YtaanacnloljlmaaGreatDoor

/- The contract of SameRows of equal rows. -/
namespace Go.Proofs.YtaanacnloljlmaaGreatDoor
open Go.RowKit Go.Maps

set_option maxRecDepth 100000 in
set_option maxHeartbeats 4000000 in
theorem sameRows_eq {B1 B2 : Nat} {w : World} {va vb : Value} {ls : List (List Int)} {us1 us2 : List Value} (h1 : RR B1 w va ls us1) (h2 : RR B2 w vb ls us2) (hl : ls.length ≤ 100) :
    Calls Tryz.prog 28 #[va, vb] w fun e w' => e = .returned (.bool true) ∧ Below w.heap.size w w' := by
  obtain ⟨aa, ac, rfl⟩ := own_slice h1.row
  obtain ⟨ba, bc, rfl⟩ := own_slice h2.row
  obtain ⟨N, hN⟩ : ∃ N, N = ls.length := ⟨_, rfl⟩
  have hNI : (N : Int) ≤ 100 := by omega
  have HL : Hid (∀ j, j < N → ∃ ga gb u v, aa = some ⟨ga, 0, none⟩ ∧ ba = some ⟨gb, 0, none⟩ ∧ (∀ W, Below w.heap.size w W → (W.cell? ⟨ga, j, none⟩ = some u ∧ W.cell? ⟨gb, j, none⟩ = some v) ∧ Calls Tryz.prog 17 #[u, v] W fun e w' => e = .returned (.bool true) ∧ Below W.heap.size W w') ∧ ∃ p1 n1 c1 p2 n2 c2, u = .slice p1 n1 c1 ∧ v = .slice p2 n2 c2) := fun j hj => by
    obtain ⟨ga, ca, ea, -⟩ := own_open h1.row (by omega)
    obtain ⟨gb, cb, eb, -⟩ := own_open h2.row (by omega)
    simp only [Value.slice.injEq] at ea eb
    obtain ⟨u, hu⟩ : ∃ u, us1[j]? = some u := ⟨_, List.getElem?_eq_getElem (by rw [h1.ul]; omega)⟩
    obtain ⟨v, hv⟩ : ∃ v, us2[j]? = some v := ⟨_, List.getElem?_eq_getElem (by rw [h2.ul]; omega)⟩
    obtain ⟨l, hl'⟩ : ∃ l, ls[j]? = some l := ⟨_, List.getElem?_eq_getElem (by omega)⟩
    have r1 := h1.un j l u hl' hu
    have r2 := h2.un j l v hl' hv
    obtain ⟨p1, c1, e1⟩ := own_slice r1
    obtain ⟨p2, c2, e2⟩ := own_slice r2
    refine ⟨ga, gb, u, v, ea.1, eb.1, fun W hW => ⟨⟨?_, ?_⟩, ?_⟩, p1, _, c1, p2, _, c2, e1, e2⟩
    · exact own_cell (h1.bw hW).row (by rw [ea.1]; rfl) hu
    · exact own_cell (h2.bw hW).row (by rw [eb.1]; rfl) hv
    · have := same_any _ _ _ _ W (r1.bw hW).nums (r2.bw hW).nums
      rw [decide_eq_true rfl] at this
      exact this
  rw [← hN]
  clear h1 h2 hl hN
  go_enter Tryz.func28, Tryz.ntmps28
  go_wp2_with fail
  go_loopw [13] (fun iv wr => ∃ j : Nat, iv = .int .i64 (j : Int) ∧ j ≤ N ∧ Below w.heap.size w wr) (fun iv _ => (N - intOf iv).toNat)
  case atStart => exact ⟨0, rfl, by omega, Below.refl _ _⟩
  case round =>
    obtain ⟨j, rfl, hj, hb⟩ := hrel
    by_cases hlt : j < N
    · obtain ⟨ga, gb, u, v, rfl, rfl, hW, p1, n1, c1, p2, n2, c2, rfl, rfl⟩ := unhide HL j hlt
      have q1 : (j : Int) < (N : Int) := by omega
      have q0 : (0 : Int) ≤ (j : Int) := by omega
      obtain ⟨S0, -⟩ := hW wr hb
      obtain ⟨S1, K1⟩ := hW wr.drew hb.drew
      have HWW := hide hW
      have HBd := hide hb
      clear hW HL
      go_wp2_with fail
      first
      | go_region_held3 (fun w' : World => w'.cell? ⟨ga, j, none⟩ = some (.slice p1 n1 c1) ∧ w'.cell? ⟨gb, j, none⟩ = some (.slice p2 n2 c2)) (first | with_reducible exact S0 | with_reducible exact S1 | with_reducible exact S2) (first
          | (go_at_call 17; refine K1.mono ?_; rintro e z1 ⟨rfl, b1⟩; have b2 := bw_tr (unhide HBd).drew b1; have S2 := (unhide HWW z1 b2).1)
          | fail)
      | fail
      all_goals
        clear S0 S1 K1 HWW HBd S2
        go_wp2_with fail
        go_roundw
        case rel => exact ⟨j + 1, by go_num, by omega, b2⟩
        case measure => simp only [intOf]; omega
    · have hje : j = N := by omega
      subst hje
      clear HL
      go_wp2
      go_ret
      exact ⟨rfl, hb⟩
end Go.Proofs.YtaanacnloljlmaaGreatDoor
