/- The contracts of above and path. -/
import Derived.Test.YtjjkhjiiakamaaaDoorTrH0
namespace Go.Proofs.YtjjkhjiiakamaaaDoor
open Go.RowKit Go.Maps

set_option maxHeartbeats 1000000 in
theorem above_tr {w : World} {v : Value} {T : List Nd} (h : Trd w v T) (hs : T.length ≤ 15) (hT : Tab w) {i : Nat} (hi : i < nlv T) :
    Calls Tryd.prog 34 #[.agg #[v], .int .i64 (i : Int)] w fun e w' => ∃ r, e = .returned r ∧ Ints w.heap.size w' r (dir ((2 * i : Nat) : Int) (nlv T : Nat)) ∧ Below w.heap.size w w' := by
  obtain ⟨a, c, rfl⟩ := h.slice
  have KL : ∀ W, _ := fun W => leaves_any a T.length c W h.len
  have hnl : nlv T = (T.length + 1) / 2 := rfl
  rw [← hnl] at KL
  obtain ⟨x, hx⟩ : ∃ x, x = 2 * i := ⟨_, rfl⟩
  have KD : ∀ W, Below w.heap.size w W → _ := fun W hW => direct_any (x : Int) (nlv T : Nat) W (hT.bw hW)
  rw [← hx]
  have q : 2 * (i : Int) = (x : Int) := by omega
  have hi8 : (i : Int) ≤ 8 := by omega
  clear h hT hnl hx hs
  generalize nlv T = n at *
  generalize dir (x : Int) (n : Int) = L at *
  generalize T.length = N at *
  go_enter Tryd.func34, Tryd.ntmps34
  go_wp2_with fail
  refine (KL _).mono ?_
  rintro e w1 ⟨rfl, b1⟩
  have b2 := bx_bel b1
  have K2 := KD _ b2
  have hsz := b2.size
  clear KL KD
  go_wp2_with fail
  refine K2.mono ?_
  rintro e w2 ⟨r, rfl, hr, b3⟩
  go_wp2
  go_ret
  exact ⟨_, rfl, hr.mono hsz, bw_tr b2 b3⟩

theorem own_mono {B B' : Nat} {w : World} {e : TypeId} {c : Nat} {v : Value} {n : Nat} {xs : List Value} (h : w.ownsRow B e c v n xs) (hb : B' ≤ B) : w.ownsRow B' e c v n xs := by
  refine ⟨h.1, ?_⟩
  rcases h.2 with h | ⟨g, cap, cur, hv, h0, r⟩
  · exact Or.inl h
  · exact Or.inr ⟨g, cap, cur, hv, Nat.le_trans hb h0, r⟩
theorem own_alloc' {B : Nat} {w : World} {e : TypeId} {c : Nat} {v : Value} {n : Nat} {xs : List Value} (h : w.ownsRow B e c v n xs) (o : Obj) : (w.alloc o).ownsRow B e c v n xs :=
  own_keep h (fun k hk => Below.heap_alloc _ _ _ (World.ownsRow.lt h k hk).2)
/-- Where path's loop stands. -/
structure PI (B : Nat) (w : World) (nv ov : Value) (P : List (Nat × List Int)) (us : List Value) : Prop where
  ns : Ints B w nv (P.map fun p => (p.1 : Int))
  rr : RR B w ov (P.map (·.2)) us
  ap : ∀ k, nv.ownBlock = some k → k ∉ rrB us
theorem RR.mono {B B' : Nat} {w : World} {v : Value} {ls : List (List Int)} {us : List Value} (h : RR B w v ls us) (hb : B' ≤ B) : RR B' w v ls us :=
  ⟨h.ul, own_mono h.row hb, fun i l u hl hu => (h.un i l u hl hu).mono hb, h.apart⟩
theorem PI.mono {B B' : Nat} {w : World} {nv ov : Value} {P : List (Nat × List Int)} {us : List Value} (h : PI B w nv ov P us) (hb : B' ≤ B) : PI B' w nv ov P us := ⟨h.ns.mono hb, h.rr.mono hb, h.ap⟩
/-- A node and its row come behind the others. -/
theorem PI.push {B : Nat} {w w1 w2 : World} {nv ov nv' ov' : Value} {P : List (Nat × List Int)} {us : List Value} {r : Value} {L : List Int} {y : Nat} (h : PI B w nv ov P us) (hr : Ints B w r L) (hrn : ∀ k, r.ownBlock = some k → k ∉ rrB us) (hrv : ∀ k, r.ownBlock = some k → nv.ownBlock ≠ some k) {o1 o2 : Obj}
    (hn : w1.ownsRow B 3 1 nv' (P.length + 1) (P.map (fun p => I64 (p.1 : Int)) ++ [.int .i64 (y : Int)])) (hg1 : (w.alloc o1).grownBy w1 nv.ownBlock) (hp1 : nv'.ownBlock = nv.ownBlock ∨ nv'.ownBlock = some (w.alloc o1).heap.size)
    (ho : w2.ownsRow B 32 1 ov' (P.length + 1) (us ++ [r])) (hg2 : (w1.alloc o2).grownBy w2 ov.ownBlock) : PI B w2 nv' ov' (P ++ [(y, L)]) (us ++ [r]) := by
  have f1 : Fr nv.ownBlock.toList w w1 := ((Fr.refl _ w).alloc _).tr (Fr.ofGrown hg1)
  have hne : ∀ k, nv.ownBlock = some k → ov.ownBlock ≠ some k := fun k hk => own_apart h.ns h.rr.row (show (3 : Nat) ≠ 32 by decide) hk
  have rr1 : RR B w1 ov (P.map (·.2)) us := h.rr.keep f1 (fun k hk c => hne k (by simpa using c) hk) (fun k hk c => h.ap k (by simpa using c) hk)
  have r1 : Ints B w1 r L := own_keep hr (fun k hk => f1.block k (World.ownsRow.lt hr k hk).2 (fun c => hrv k hk (by simpa using c)))
  have ho' : w2.ownsRow B 32 1 ov' ((P.map (·.2)).length + 1) (us ++ [r]) := by simpa using ho
  have rr2 : RR B w2 ov' (P.map (·.2) ++ [L]) (us ++ [r]) := (rr1.bw (bwA _ o2)).push (own_alloc' r1 o2) hrn ho' hg2
  have f2 : Fr ov.ownBlock.toList w1 w2 := ((Fr.refl _ w1).alloc _).tr (Fr.ofGrown hg2)
  have hnI : Ints B w1 nv' ((P ++ [(y, L)]).map fun p => (p.1 : Int)) := by
    unfold Ints; simpa [I64, Function.comp_def] using hn
  refine ⟨own_keep hnI (fun k hk => f2.block k (World.ownsRow.lt hnI k hk).2 (fun c => own_apart hnI rr1.row (show (3 : Nat) ≠ 32 by decide) hk (by simpa using c))), by simpa using rr2, ?_⟩
  intro k hk c
  have hlt : ∀ m, m ∈ rrB (us ++ [r]) → m < w.heap.size := fun m hm => by
    unfold rrB at hm; rw [List.filterMap_append, List.mem_append] at hm
    rcases hm with hm | hm
    · exact (h.rr.lt hm).2
    · simp at hm; exact (World.ownsRow.lt hr m hm).2
  rcases hp1 with e | e
  · rw [e] at hk
    unfold rrB at c; rw [List.filterMap_append, List.mem_append] at c
    rcases c with c | c
    · exact h.ap k hk c
    · simp at c; exact hrv k c hk
  · rw [e] at hk
    have hk : (w.alloc o1).heap.size = k := by simpa using hk
    have := hlt k c
    simp at hk; omega
theorem PI.bw {B : Nat} {w w' : World} {nv ov : Value} {P : List (Nat × List Int)} {us : List Value} (h : PI B w nv ov P us) (hb : Below w.heap.size w w') : PI B w' nv ov P us := ⟨h.ns.bw hb, h.rr.bw hb, h.ap⟩
set_option maxRecDepth 100000 in
set_option maxHeartbeats 4000000 in
theorem path_any {w : World} {v : Value} {T : List Nd} (h : Trd w v T) (hw : Wd T) (hs : Sm T) (hT : Tab w) {i : Nat} (hi : i < nlv T) :
    Calls Tryd.prog 38 #[.agg #[v], .int .i64 (i : Int)] w fun e w' => ∃ nv ov us, e = .returned (.tuple #[nv, ov]) ∧ PI w.heap.size w' nv ov (prs T i) us ∧ Below w.heap.size w w' := by
  obtain ⟨g1, g2, g3, g4, g5⟩ := hw.facts
  obtain ⟨d1, d2, d3, d4, d5, d6⟩ := up_of g1 hi
  have d7 := up_len g1 hi
  obtain ⟨i0, hi0, hz0, hz1, hz2⟩ := info_parts Tryd.infoInt
  obtain ⟨j0, hj0, hy0, hy1, hy2⟩ := info_parts infoInts
  obtain ⟨a, c, rfl⟩ := h.slice
  obtain ⟨w0, hw0⟩ : ∃ w0, w0 = bxw w (.slice a T.length c) := ⟨_, rfl⟩
  have b0 : Below w.heap.size w w0 := by rw [hw0]; exact bwA _ _
  have HB : Hid (∀ W, Below w0.heap.size w0 W → W.cell? ⟨w.heap.size, 0, none⟩ = some (.slice a T.length c) ∧ Below w.heap.size w W) := fun W hW => by subst hw0; exact ⟨bx_cell hW, bx_bel hW⟩
  have KL := hide (leaves_any a T.length c w0 h.len)
  have hnl : nlv T = (T.length + 1) / 2 := rfl
  rw [← hnl] at KL
  obtain ⟨x2, hx2⟩ : ∃ x2, x2 = 2 * i := ⟨_, rfl⟩
  have KC : Hid (∀ W, Below w.heap.size w W → Calls Tryd.prog 54 #[.int .i64 (x2 : Int), .int .i64 (nlv T : Nat)] W fun e w' => ∃ v, e = .returned v ∧ Ints W.heap.size w' v ((sdN (nlv T) i).map (fun (x : Nat) => (x : Int))) ∧ Below W.heap.size W w') := fun W hW => by
    have := copath_any (x2 : Int) (nlv T : Nat) W (hT.bw hW); rw [hx2, d2] at this; rw [hx2]; exact this
  have KA : Hid (∀ W, Below w.heap.size w W → Calls Tryd.prog 34 #[.agg #[.slice a T.length c], .int .i64 (i : Int)] W fun e w' => ∃ r, e = .returned r ∧ Ints W.heap.size w' r ((upN (nlv T) i).map (fun (x : Nat) => (x : Int))) ∧ Below W.heap.size W w') := fun W hW => by
    have := above_tr (h.bw hW) g3 (hT.bw hW) hi; rw [d1] at this; exact this
  have KR : Hid (∀ W (y : Nat), y ∈ sdN (nlv T) i → Below w.heap.size w W → Calls Tryd.prog 41 #[.agg #[.slice a T.length c], .int .i64 (y : Int)] W fun e w' => ∃ r, e = .returned r ∧ Ints W.heap.size w' r (rsl T y) ∧ Below W.heap.size W w') := fun W y hy hW => resolution_at hw hs y (d6 y hy) (h.bw hW) (hT.bw hW)
  have HP : Hid (prs T i = prsL T ((upN (nlv T) i).zip (sdN (nlv T) i))) := prs_eq T i
  have HL72 : Hid (∀ y ∈ sdN (nlv T) i, (rsl T y).length ≤ 72) := fun y hy => rsl_72 hw hs (by have := d6 y hy; omega)
  have q : 2 * (i : Int) = (x2 : Int) := by omega
  have hi8 : (i : Int) ≤ 8 := by omega
  have HW : Hid (w0 = w.alloc (.cells #[.slice a T.length c] 24)) := hw0
  clear h hT hnl hx2 hw0 hw hs g1 g2 g3 g5 d1 d2 d4 d5 d6 hi
  generalize nlv T = n at *
  generalize upN n i = U at *
  generalize sdN n i = D at *
  generalize T.length = N at *
  obtain ⟨M, hM⟩ : ∃ M, M = U.length := ⟨_, rfl⟩
  have hM3 : M ≤ 3 := by omega
  have HM : Hid (M = U.length ∧ M = D.length) := ⟨hM, by omega⟩
  clear hM d3 d7
  go_enter Tryd.func38, Tryd.ntmps38
  go_wp2_with fail
  rw [← unhide HW]
  refine (unhide KL).mono ?_
  rintro e w1 ⟨rfl, b1⟩
  obtain ⟨c1, hb1⟩ := unhide HB _ b1
  clear KL HW
  go_wp2_with fail
  refine (unhide KC _ hb1).mono ?_
  rintro e w2 ⟨sv, rfl, hsv, b2⟩
  have b3 := bw_tr b1 b2
  obtain ⟨c2, hb3⟩ := unhide HB _ b3
  clear KC c1
  go_wp2_with fail
  refine (unhide KA _ hb3).mono ?_
  rintro e w3 ⟨uv, rfl, huv, b4⟩
  have b5 := bw_tr b3 b4
  have HS := hide ((hsv.nums).bw b4)
  have HU := hide (huv.nums)
  obtain ⟨ua, uc, hue⟩ := own_slice huv
  rw [List.length_map, ← (unhide HM).1] at hue
  obtain ⟨sa, sc, hse⟩ := own_slice hsv
  rw [List.length_map, ← (unhide HM).2] at hse
  subst hue hse
  have s0 := b0.size
  clear KA hsv huv c2 hb1 hb3
  go_wp2_with fail
  go_loopw [4, 5, 19] (fun nv ov iv wr => ∃ (j : Nat) (us : List Value), iv = .int .i64 (j : Int) ∧ j ≤ M ∧ Hid (PI w3.heap.size wr nv ov (prsL T ((U.zip D).take j)) us) ∧ Below w3.heap.size w3 wr) (fun _ _ iv _ => (M - (intOf iv)).toNat)
  case atStart => exact ⟨0, [], rfl, by omega, ⟨ints_nil _ _, rr_nil _ _, fun k hk => by cases hk⟩, Below.refl _ _⟩
  case round =>
    obtain ⟨j, us, rfl, hjM, hPI, hbel⟩ := hrel
    have b6 := bw_tr b5 hbel
    obtain ⟨c1, hbw⟩ := unhide HB _ b6
    by_cases hlt : j < M
    · obtain ⟨y, hy⟩ : ∃ y, U[j]? = some y := ⟨_, List.getElem?_eq_getElem (by have := (unhide HM).1; omega)⟩
      obtain ⟨z, hz⟩ : ∃ z, D[j]? = some z := ⟨_, List.getElem?_eq_getElem (by have := (unhide HM).2; omega)⟩
      obtain ⟨gu, ou, cu, hue, hcu⟩ := (unhide HU).open (by simp; have := (unhide HM).1; omega)
      obtain ⟨gs, os', cs, hse, hcs⟩ := (unhide HS).open (by simp; have := (unhide HM).2; omega)
      rw [List.length_map, ← (unhide HM).1] at hue
      rw [List.length_map, ← (unhide HM).2] at hse
      cases hue
      cases hse
      have HUc : Hid (∀ W, Below w3.heap.size w3 W → W.cell? ⟨gu, ou + j, none⟩ = some (.int .i64 (y : Int)) ∧ W.cell? ⟨gs, os' + j, none⟩ = some (.int .i64 (z : Int))) := fun W hW => by
        have k1 := hcu j (y : Int) (by simp [hy])
        have k2 := hcs j (z : Int) (by simp [hz])
        refine ⟨?_, ?_⟩
        · rw [hW.cell (p := ⟨gu, ou + j, none⟩) (lt_of_cell (a := ⟨gu, ou + j, none⟩) k1)]; exact k1
        · rw [hW.cell (p := ⟨gs, os' + j, none⟩) (lt_of_cell (a := ⟨gs, os' + j, none⟩) k2)]; exact k2
      obtain ⟨cu1, cs1⟩ := unhide HUc _ hbel
      have hzm : z ∈ D := List.mem_of_getElem? hz
      have KR2 := hide (unhide KR · z hzm)
      have hl72 := unhide HL72 z hzm
      have hsn : Hid (prsL T ((U.zip D).take (j + 1)) = prsL T ((U.zip D).take j) ++ if rsl T z = [] then [] else [(y, rsl T z)]) := by
        unfold Hid
        have e : (U.zip D)[j]? = some (y, z) := by rw [List.getElem?_zip_eq_some]; exact ⟨hy, hz⟩
        rw [List.take_add_one, e]
        exact prsL_snoc T _ (y, z)
      have hpl : (prsL T ((U.zip D).take j)).length ≤ 3 := Nat.le_trans (prsL_len T _) (by simp; omega)
      generalize prsL T ((U.zip D).take j) = P at *
      generalize rsl T z = L at *
      have q1 : (j : Int) < (M : Int) := by omega
      have q0 : (0 : Int) ≤ (j : Int) := by omega
      have hM3' : (M : Int) ≤ 3 := by omega
      clear hy hz hcu hcs hzm KR HL72
      have HR : Hid (∀ W, Below w3.heap.size w3 W → W.cell? ⟨w.heap.size, 0, none⟩ = some (.slice a N c) ∧ W.cell? ⟨gs, os' + j, none⟩ = some (.int .i64 (z : Int))) := fun W hW => ⟨(unhide HB _ (bw_tr b5 hW)).1, (unhide HUc _ hW).2⟩
      have bd : Below w3.heap.size w3 wr.drew := hbel.drew
      have J1 := unhide KR2 wr.drew hbw.drew
      have S0 := unhide HR _ bd
      generalize ((z : Nat) : Int) = zi at *
      go_upto_region 5 with fail
      go_region_held3 (fun w' : World => w'.cell? ⟨w.heap.size, 0, none⟩ = some (.slice a N c) ∧ w'.cell? ⟨gs, os' + j, none⟩ = some (.int .i64 zi)) (first | with_reducible exact S0 | with_reducible exact S1) (first
        | (go_at_call 41; refine J1.mono ?_; rintro e z1 ⟨r1, rfl, R1, b7⟩; have b8 := bw_tr bd b7; have S1 := unhide HR _ b8))
      have hPI2 := hide ((unhide hPI).bw (bw_tr (Below.refl _ _).drew b7))
      have hnew : Hid (∀ k, r1.ownBlock = some k → wr.heap.size ≤ k ∧ k < z1.heap.size) := fun k hk => World.ownsRow.lt R1 k hk
      have HO : Hid (PI w3.heap.size wr u4 u5 P us) := hPI
      clear S0 S1 J1 HR cu1 cs1 HUc KR2 hPI
      obtain ⟨ra, rc, rfl⟩ := own_slice R1
      by_cases hL : L = []
      · subst hL
        clear R1
        go_wp2_with fail
        go_roundw
        case rel => exact ⟨j + 1, us, by go_num, by omega, by rw [unhide hsn]; simpa [Hid] using unhide hPI2, b8⟩
        case measure => simp [intOf]; omega
      · have hLne : L ≠ [] := hL
        have hLp : (0 : Int) < (L.length : Int) := by have := List.length_pos_iff.2 hL; omega
        have hl72' : (L.length : Int) ≤ 72 := by omega
        rw [if_neg hLne] at hsn
        have HR1 := hide R1
        clear hL hLne R1
        have N1 : z1.ownsRow w3.heap.size 3 1 u4 P.length (P.map fun p => I64 (p.1 : Int)) := by have := (unhide hPI2).ns; simpa [Ints, Function.comp_def] using this
        have N2 : Hid (z1.ownsRow w3.heap.size 32 1 u5 P.length us) := by have := (unhide hPI2).rr.row; simpa [Hid] using this
        have N3 : Hid (∀ k, u4.ownBlock = some k → u5.ownBlock ≠ some k) := fun k hk => own_apart (unhide hPI2).ns (unhide hPI2).rr.row (show (3 : Nat) ≠ 32 by decide) hk
        generalize hLL : L.length = LL at *
        have hsz := b8.size
        go_wp2_with (at_builtin; refine wpList_append_own_at _ rfl (.tmp 33) (.tmp 35) 32 rfl w3.heap.size 3 i0 (.int .i64 0) 1 8 Tryd.underlying32 hi0 hz0 hz1 hz2 rfl (by decide) u4 P.length _ rfl (own_alloc' N1 _) ⟨z1.heap.size, 0, none⟩ 1 1 [_] rfl rfl (cell_one_new _ _ _) ?c2 ?c3 ?c4 ?c5 ?nx)
        case c2 => intro u hu; simp at hu; subst hu; rfl
        case c3 => unfold maxLen; omega
        case c4 => omega
        case c5 => simp; omega
        case nx =>
          intro nv' w4 hown' hgrow _ hpl4
          have f1 : Fr u4.ownBlock.toList z1 w4 := ((Fr.refl _ z1).alloc _).tr (Fr.ofGrown hgrow)
          have N4 : w4.ownsRow w3.heap.size 32 1 u5 P.length us := own_keep (unhide N2) (fun k hk => f1.block k (World.ownsRow.lt (unhide N2) k hk).2 (fun c => unhide N3 k (by simpa using c) hk))
          have hs4 : w3.heap.size ≤ w4.heap.size := Nat.le_trans hsz f1.size
          have HF1 := hide f1
          have HG := hide (And.intro hown' (And.intro hgrow hpl4))
          clear hown' hgrow hpl4 f1 N1
          go_wp2_with (at_builtin; refine wpList_append_own_at _ rfl (.tmp 37) (.tmp 39) 48 rfl w3.heap.size 32 j0 (.slice none 0 0) 1 24 Tryd.underlying48 hj0 hy0 hy1 hy2 rfl (by decide) u5 P.length _ rfl (own_alloc' N4 _) ⟨w4.heap.size, 0, none⟩ 1 1 [_] rfl rfl (cell_one_new _ _ _) ?d2 ?d3 ?d4 ?d5 ?ny)
          case d2 => intro u hu; simp at hu; subst hu; rfl
          case d3 => unfold maxLen; omega
          case d4 => omega
          case d5 => simp; omega
          case ny =>
            intro ov' w5 hown2 hgrow2 _ hpl5
            obtain ⟨hown', hgrow, hpl4⟩ := unhide HG
            have R1w : Ints w3.heap.size z1 (.slice ra LL rc) L := by
              have := (unhide HR1).mono (show w3.heap.size ≤ wr.drew.heap.size from bd.size); exact this
            have hPI3 : PI w3.heap.size w5 nv' ov' (P ++ [(y, L)]) (us ++ [.slice ra LL rc]) :=
              (unhide hPI2).push R1w (fun k hk c => by have := unhide hnew k hk; have := ((unhide HO).rr.lt c).2; omega) (fun k hk c => by have := unhide hnew k hk; have := (World.ownsRow.lt (unhide HO).ns k c).2; omega) hown' hgrow (by simpa using hpl4) hown2 hgrow2
            have b9 : Below w3.heap.size w3 w5 := by
              have q1 : Below w3.heap.size w3 w4 := Fr.toBase b8 (unhide HF1) (fun k hk => (World.ownsRow.lt (unhide HO).ns k (by simpa using hk)).1)
              exact Fr.toBase q1 (((Fr.refl _ w4).alloc _).tr (Fr.ofGrown hgrow2)) (fun k hk => (World.ownsRow.lt N4 k (by simpa using hk)).1)
            have HPI3 := hide hPI3
            clear hPI3 hown2 hgrow2 hpl5 R1w hown' hgrow hpl4 HG N4 HR1 hPI2 HO
            go_wp2_with fail
            go_roundw
            case rel => exact ⟨j + 1, _, by go_num, by omega, by rw [unhide hsn]; exact HPI3, b9⟩
            case measure => simp [intOf]; omega
    · have hie : j = M := by omega
      subst hie
      have hE : Hid (PI w3.heap.size wr u4 u5 (prs T i) us) := by
        unfold Hid; rw [unhide HP]
        have e : (U.zip D).take j = U.zip D := List.take_of_length_le (by have := unhide HM; simp; omega)
        have := unhide hPI; rw [e] at this; exact this
      have hs3 := b5.size
      clear hPI
      go_wp2_with fail
      go_ret2
      exact ⟨_, _, _, rfl, (unhide hE).mono (by omega), hbw⟩
end Go.Proofs.YtjjkhjiiakamaaaDoor
