/- The contracts of the document's has and Targets. -/
import Derived.Test.YtaanacnloljlmaaGreatDoorZ19
import Derived.Test.YtaanacnloljlmaaGreatDoorZ10
namespace Go.Proofs.YtaanacnloljlmaaGreatDoor
open Go.RowKit Go.Maps

set_option maxRecDepth 100000 in
set_option maxHeartbeats 2000000 in
theorem rhas_any {w : World} {v : Value} {l : List Int} (h : Nums w v l) (hl : l.length ≤ 140737488355328) (n : Int) :
    Calls Tryz.prog 161 #[v, .int .i64 n] w fun e w' => e = .returned (.bool (l.contains n)) ∧ w' = w := by
  obtain ⟨a, c, rfl⟩ := nums_slice h
  obtain ⟨N, hN⟩ : ∃ N, N = l.length := ⟨_, rfl⟩
  have hNI : (N : Int) ≤ 140737488355328 := by omega
  have HL : Hid (∀ i z, l[i]? = some z → ∃ g o, a = some ⟨g, o, none⟩ ∧ w.cell? ⟨g, o + i, none⟩ = some (.int .i64 z)) := fun i z hz => by
    obtain ⟨g, o, cap, e, hc⟩ := h.open (by have := (List.getElem?_eq_some_iff.1 hz).1; omega)
    simp only [Value.slice.injEq] at e
    exact ⟨g, o, e.1, hc i z hz⟩
  rw [← hN]
  have HN := hide hN
  obtain ⟨R, hR⟩ : ∃ R, R = l.contains n := ⟨_, rfl⟩
  rw [← hR]
  have HR := hide hR
  clear h hl hN hR
  go_enter Tryz.func161, Tryz.ntmps161
  go_wp2_with fail
  go_loopw [5] (fun iv wr => ∃ i : Nat, iv = .int .i64 (i : Int) ∧ i ≤ N ∧ Hid ((l.take i).contains n = false) ∧ wr = w) (fun iv _ => (N - intOf iv).toNat)
  case atStart => exact ⟨0, rfl, by omega, by unfold Hid; simp, rfl⟩
  case round =>
    obtain ⟨i, rfl, hi, HF, rfl⟩ := hrel
    by_cases hlt : i < N
    · obtain ⟨z, hz⟩ : ∃ z, l[i]? = some z := ⟨_, List.getElem?_eq_getElem (by rw [← unhide HN]; exact hlt)⟩
      obtain ⟨g, o, rfl, dz⟩ := unhide HL i z hz
      have q1 : (i : Int) < (N : Int) := by omega
      have q0 : (0 : Int) ≤ (i : Int) := by omega
      by_cases hzn : z = n
      · have hRt : R = true := by rw [unhide HR]; simp; rw [← hzn]; exact List.mem_of_getElem? hz
        subst hRt
        subst hzn
        clear hz HL HF HR
        go_wp2
        go_ret
        exact ⟨rfl, rfl⟩
      · have z1 : decide (z = n) = false := decide_eq_false hzn
        have z2 : (z == n) = false := by simpa using hzn
        have HF2 : Hid ((l.take (i + 1)).contains n = false) := by
          unfold Hid
          rw [List.take_add_one, hz]
          have := unhide HF
          simp only [Option.toList_some, List.contains_eq_mem, List.mem_append, List.mem_singleton, decide_eq_false_iff_not, not_or] at this ⊢
          exact ⟨this, fun c => hzn c.symm⟩
        clear hz HL HF HR hzn
        go_wp2_with fail
        go_roundw
        case rel => exact ⟨i + 1, by go_num, by omega, HF2, by first | rfl | trivial⟩
        case measure => simp only [intOf]; omega
    · have hie : i = N := by omega
      subst hie
      have hRf : R = false := by
        rw [unhide HR]
        have := unhide HF
        rw [List.take_of_length_le (by rw [unhide HN]; exact Nat.le_refl _)] at this
        exact this
      subst hRf
      clear HL HF HR hlt hi
      go_wp2
      go_ret
      exact ⟨rfl, rfl⟩
theorem mem_prsL {T : List Nd} {l : List (Nat × Nat)} {p : Nat × List Int} (h : p ∈ prsL T l) : ∃ s, (p.1, s) ∈ l ∧ rsl T s = p.2 := by
  unfold prsL at h
  obtain ⟨h1, -⟩ := List.mem_filter.1 h
  obtain ⟨q, hq, e⟩ := List.mem_map.1 h1
  exact ⟨q.2, by rw [← e]; exact hq, by rw [← e]⟩
theorem keepF_is (fl : List Int) {z : Int} (h : 0 ≤ z) : (decide (Int.tmod z 2 = 1) || !fl.contains (Int.tdiv z 2)) = keepF fl z := by
  unfold keepF
  rw [Int.tmod_eq_emod_of_nonneg h, Int.tdiv_eq_ediv_of_nonneg h]
  rcases Int.emod_two_eq z with c | c
  · rw [c]; simp
  · rw [c]; simp
set_option maxRecDepth 100000 in
set_option maxHeartbeats 8000000 in
theorem rtargets_ok {w : World} {v fv : Value} {T : List Nd} {fl : List Int} (h : Trd w v T) (hfv : Nums w fv fl) (hfl : fl.length ≤ 140737488355328) {i : Nat} (hm : mayB T = true) (hE : askE T (i : Int) = 0) (hi : i < nlv T) :
    Calls Tryz.prog 27 #[.agg #[v], .int .i64 (i : Int), fv] w fun e w' => ∃ r us, e = .returned (.tuple #[r, .int .i64 0]) ∧ RR w.heap.size w' r (tgt T i fl) us ∧ Below w.heap.size w w' := by
  have ok := mayB_okn hm (nlv_pos (by omega))
  obtain ⟨g1, g2, g3, g4, g5⟩ := ok.wd.facts
  obtain ⟨d1, d2, d3, d4, d5, d6⟩ := up_of g1 hi
  have d7 := up_len g1 hi
  obtain ⟨i0, hi0, hz0, hz1, hz2⟩ := info_parts Tryz.infoInt
  obtain ⟨j0, hj0, hy0, hy1, hy2⟩ := info_parts infoInts
  obtain ⟨a, c, rfl⟩ := h.slice
  obtain ⟨fa, fc, hfe⟩ := nums_slice hfv
  subst hfe
  obtain ⟨w0, hw0⟩ : ∃ w0, w0 = bxw w (.slice a T.length c) := ⟨_, rfl⟩
  have b0 : Below w.heap.size w w0 := by rw [hw0]; exact bwA _ _
  have HB : Hid (∀ W, Below w0.heap.size w0 W → W.cell? ⟨w.heap.size, 0, none⟩ = some (.slice a T.length c) ∧ Below w.heap.size w W) := fun W hW => by subst hw0; exact ⟨bx_cell hW, bx_bel hW⟩
  have KP := hide (rpath_ok (h.bw b0) hm hE hi)
  obtain ⟨P, hP⟩ : ∃ P, P = prs T i := ⟨_, rfl⟩
  have hPth : pth T i = P.map fun p => (p.1 : Int) := by rw [hP]; rfl
  have hTgt : tgt T i fl = P.map fun p => p.2.filter (keepF fl) := by rw [hP]; unfold tgt oth; rw [List.map_map]; rfl
  have hPl : P.length ≤ 3 := by
    rw [hP, prs_eq]
    refine Nat.le_trans (prsL_len T _) ?_
    simp
    omega
  have HO : Hid (∀ p ∈ P, ∃ s : Nat, (∀ W, Calls Tryz.prog 160 #[.int .i64 (p.1 : Int), .int .i64 (i : Int)] W fun e w' => e = .returned (.int .i64 (s : Int)) ∧ w' = W) ∧ (∀ W, Below w.heap.size w W → Calls Tryz.prog 157 #[.agg #[.slice a T.length c], .int .i64 (s : Int)] W fun e w' => ∃ r, e = .returned r ∧ Ints W.heap.size w' r p.2 ∧ Below W.heap.size W w') ∧ p.2.length ≤ 72 ∧ ∀ z ∈ p.2, 0 ≤ z ∧ z ≤ 30) := fun p hp => by
    rw [hP, prs_eq] at hp
    obtain ⟨s, hs, e⟩ := mem_prsL hp
    have hsd := d6 s (List.of_mem_zip hs).2
    refine ⟨s, fun W => rother_at g1 hi hs W, fun W hW => ?_, ?_, ?_⟩
    · have := rres_at ok.wd ok.sm s hsd (h.bw hW); rw [e] at this; exact this
    · rw [← e]; exact rsl_72 ok.wd ok.sm (by omega)
    · rw [← e]; exact rsl_small ok.wd ok.sm s (by omega)
  have KF : Hid (∀ W z, Below w.heap.size w W → Calls Tryz.prog 161 #[.slice fa fl.length fc, .int .i64 z] W fun e w' => e = .returned (.bool (fl.contains z)) ∧ w' = W) := fun W z hW => rhas_any (hfv.bw hW) hfl z
  rw [hTgt]
  rw [hPth] at KP
  have HW : Hid (w0 = w.alloc (.cells #[.slice a T.length c] 24)) := hw0
  have hi8 : (i : Int) ≤ 8 := by omega
  have hiz : (0 : Int) ≤ (i : Int) := by omega
  obtain ⟨M, hMl⟩ : ∃ M, M = P.length := ⟨_, rfl⟩
  have hM3 : M ≤ 3 := by omega
  have HM := hide hMl
  clear h hfv hfl hm hE hi ok g1 g2 g3 g4 g5 d1 d2 d3 d4 d5 d6 d7 hw0 hP hPth hTgt hPl hMl
  generalize T.length = TN at *
  generalize fl.length = FN at *
  go_enter Tryz.func27, Tryz.ntmps27
  go_wp2_with fail
  rw [← unhide HW]
  refine (unhide KP).mono ?_
  rintro e w3 ⟨uv, rfl, huv, b3⟩
  have HU := hide (huv.nums)
  obtain ⟨ua, uc, hue⟩ := own_slice huv
  rw [List.length_map, ← unhide HM] at hue
  subst hue
  have s0 := b0.size
  have s3 := b3.size
  have B3 := hide b3
  clear KP huv b3 HW
  go_wp2_with fail
  go_loopw [10, 11] (fun ov iv wr => ∃ (j : Nat) (us : List Value), iv = .int .i64 (j : Int) ∧ j ≤ M ∧ Hid (RR w3.heap.size wr ov ((P.take j).map fun p => p.2.filter (keepF fl)) us ∧ Below w3.heap.size w3 wr)) (fun _ iv _ => (M - (intOf iv)).toNat)
  case atStart => exact ⟨0, [], rfl, by omega, ⟨rr_nil _ _, Below.refl _ _⟩⟩
  case round =>
    obtain ⟨j, us, rfl, hjM, HR⟩ := hrel
    by_cases hlt : j < M
    · obtain ⟨p, hp⟩ : ∃ p, P[j]? = some p := ⟨_, List.getElem?_eq_getElem (by rw [← unhide HM]; exact hlt)⟩
      obtain ⟨s, KO, KR, hl72, hsm⟩ := unhide HO p (List.mem_of_getElem? hp)
      obtain ⟨gu, ou, cu, hue, hcu⟩ := (unhide HU).open (by simp; have := unhide HM; omega)
      rw [List.length_map, ← unhide HM] at hue
      cases hue
      have HUc : Hid (∀ W, Below w3.heap.size w3 W → (W.cell? ⟨w.heap.size, 0, none⟩ = some (.slice a TN c) ∧ W.cell? ⟨gu, ou + j, none⟩ = some (.int .i64 (p.1 : Int))) ∧ Below w.heap.size w W) := fun W hW => by
        have k1 := hcu j (p.1 : Int) (by simp [hp])
        obtain ⟨q1, q2⟩ := unhide HB _ (bw_tr (unhide B3) hW)
        exact ⟨⟨q1, by rw [hW.cell (p := ⟨gu, ou + j, none⟩) (lt_of_cell (a := ⟨gu, ou + j, none⟩) k1)]; exact k1⟩, q2⟩
      have hsn : Hid ((P.take (j + 1)).map (fun p => p.2.filter (keepF fl)) = (P.take j).map (fun p => p.2.filter (keepF fl)) ++ [p.2.filter (keepF fl)]) := by
        unfold Hid; rw [List.take_add_one, hp]; simp
      have q1 : (j : Int) < (M : Int) := by omega
      have q0 : (0 : Int) ≤ (j : Int) := by omega
      have hM3' : (M : Int) ≤ 3 := by omega
      have bd : Below w3.heap.size w3 wr.drew := (unhide HR).2.drew
      obtain ⟨S0, hbw0⟩ := unhide HUc _ bd
      obtain ⟨S00, -⟩ := unhide HUc _ (unhide HR).2
      have J1 := KR wr.drew hbw0
      have KO2 := hide KO
      have HSM := hide hsm
      obtain ⟨pl, hpl⟩ : ∃ pl, pl = p.2 := ⟨_, rfl⟩
      rw [← hpl] at J1 hl72 hsn HSM
      clear hp hcu KO KR HO hsm hpl hbw0
      generalize ((s : Nat) : Int) = zi at *
      generalize ((p.1 : Nat) : Int) = yi at *
      go_upto_region 8 with fail
      first
      | go_region_held3 (fun w' : World => w'.cell? ⟨w.heap.size, 0, none⟩ = some (.slice a TN c) ∧ w'.cell? ⟨gu, ou + j, none⟩ = some (.int .i64 yi)) (first | with_reducible exact S00 | with_reducible exact S0 | with_reducible exact S1) (first
          | (go_at_call 157; refine J1.mono ?_; rintro e z1 ⟨r1, rfl, R1, b7⟩; have b8 := bw_tr bd b7; have S1 := (unhide HUc _ b8).1; obtain ⟨ra, rc, re⟩ := own_slice R1; subst re)
          | (go_at_call 160; refine (unhide KO2 _).mono ?_; rintro e z0 ⟨rfl, rfl⟩)
          | fail)
      | fail
      all_goals
        have HR2 : Hid (RR w3.heap.size z1 u10 ((P.take j).map fun p => p.2.filter (keepF fl)) us ∧ Below w3.heap.size w3 z1) := ⟨(unhide HR).1.bw (bw_tr (Below.refl _ _).drew b7), b8⟩
        have HRow := hide R1.nums
        have hzz := (unhide HUc _ b8).2
        obtain ⟨LL, hLL⟩ : ∃ LL, LL = pl.length := ⟨_, rfl⟩
        rw [← hLL] at hl72
        have HLL := hide hLL
        have hzs : wr.heap.size ≤ z1.heap.size := b7.size
        have hrl := fun k hk => ((unhide HR).1.lt (k := k) hk).2
        have HRL := hide hrl
        have HZ := hide hzz
        rw [← hLL]
        rw [← hLL] at HRow
        have hs13 := b8.size
        clear HR S0 S00 S1 J1 HUc KO2 R1 b7 hzz hLL hrl bd
        go_wp2_with fail
        go_loopw [13, 14] (fun nv kv wq => ∃ k : Nat, kv = .int .i64 (k : Int) ∧ k ≤ LL ∧ Hid (Ints z1.heap.size wq nv ((pl.take k).filter (keepF fl)) ∧ Below z1.heap.size z1 wq)) (fun _ kv _ => (LL - (intOf kv)).toNat)
        case atStart => exact ⟨0, rfl, by omega, ⟨by simpa using ints_nil _ _, Below.refl _ _⟩⟩
        case round =>
          obtain ⟨k, rfl, hk, HI⟩ := hrel
          have hbq : Below w.heap.size w wr := bw_tr (unhide HZ) (unhide HI).2
          by_cases hkl : k < LL
          · obtain ⟨z, hz⟩ : ∃ z, pl[k]? = some z := ⟨_, List.getElem?_eq_getElem (by rw [← unhide HLL]; exact hkl)⟩
            obtain ⟨hzn, hz30⟩ := unhide HSM z (List.mem_of_getElem? hz)
            have hrow := (unhide HRow).bw (unhide HI).2
            obtain ⟨gr, gor, gcr, hre, hcr⟩ := hrow.open (by have := unhide HLL; omega)
            simp only [Value.slice.injEq] at hre
            obtain ⟨hre1, -, -⟩ := hre
            subst hre1
            have dz := hcr k z hz
            have hft : Hid ((pl.take (k + 1)).filter (keepF fl) = (pl.take k).filter (keepF fl) ++ if keepF fl z = true then [z] else []) := by
              unfold Hid; rw [List.take_add_one, hz]; simp [List.filter_append, List.filter_cons]
            have hkf := keepF_is fl hzn
            obtain ⟨Q, hQe⟩ : ∃ Q, Q = (pl.take k).filter (keepF fl) := ⟨_, rfl⟩
            have hQl : Q.length ≤ 72 := by rw [hQe]; refine Nat.le_trans (List.length_filter_le _ _) ?_; simp; omega
            have hQ : Ints z1.heap.size wr u13 Q := by rw [hQe]; exact (unhide HI).1
            rw [← hQe] at hft
            have t1 : (k : Int) < (LL : Int) := by omega
            have t0 : (0 : Int) ≤ (k : Int) := by omega
            have t9 : (LL : Int) ≤ 72 := by omega
            have hszq := (unhide HI).2.size
            obtain ⟨h2, hh2⟩ : ∃ h2 : Int, h2 = Int.tdiv z 2 := ⟨_, rfl⟩
            rw [← hh2] at hkf
            have u1 : Int.tdiv z 2 = h2 := hh2.symm
            have hh3 : h2 = z / 2 := by rw [hh2, Int.tdiv_eq_ediv_of_nonneg hzn]
            have u2 : IntKind.i64.wrap h2 = h2 := by rw [IntKind.wrap_i64]; omega
            clear hh3
            have KF2 := hide (unhide KF wr h2 hbq)
            clear hz hcr hrow hQe hh2
            by_cases hodd : Int.tmod z 2 = 1
            · have hk1 : keepF fl z = true := by rw [← hkf, decide_eq_true hodd]; rfl
              clear hkf KF2
              go_wp2_with (at_builtin; refine wpList_append_own _ rfl (.tmp 60) (.tmp 65) 31 rfl z1.heap.size 3 i0 (.int .i64 0) 1 8 Tryz.underlying31 hi0 hz0 hz1 hz2 rfl (by decide) _ Q.length _ rfl (World.ownsRow.alloc hQ _) ⟨wr.heap.size, 0, none⟩ 1 1 [_] rfl rfl (cell_one_new _ _ _) ?c2 ?c3 ?c4 ?c5 ?nx)
              case c2 => intro u hu; simp at hu; subst hu; rfl
              case c3 => unfold maxLen; omega
              case c4 => omega
              case c5 => simp; omega
              case nx =>
                intro v' w4 hown' hgrow _
                obtain ⟨R1, R2⟩ := ints_snoc z (unhide HI).2 hQ hown' hgrow
                have HI2 : Hid (Ints z1.heap.size w4 v' ((pl.take (k + 1)).filter (keepF fl)) ∧ Below z1.heap.size z1 w4) := by
                  have e := unhide hft; rw [hk1, if_pos rfl] at e; unfold Hid; rw [e]; exact ⟨R1, R2⟩
                clear hown' hgrow R1 R2 hQ HI hft
                go_wp2_with fail
                go_roundw
                case rel => exact ⟨k + 1, by go_num, by omega, HI2⟩
                case measure => simp [intOf]; omega
            · have ht0 : Int.tmod z 2 = 0 := by rw [Int.tmod_eq_emod_of_nonneg hzn] at hodd ⊢; omega
              rw [decide_eq_false hodd, Bool.false_or] at hkf
              generalize fl.contains h2 = cc at *
              clear hodd
              go_wp2_with fail
              refine (unhide KF2).mono ?_
              rintro e wr ⟨rfl, rfl⟩
              clear KF2
              cases cc
              · have hk1 : keepF fl z = true := hkf.symm
                clear hkf
                go_wp2_with (at_builtin; refine wpList_append_own _ rfl (.tmp 60) (.tmp 65) 31 rfl z1.heap.size 3 i0 (.int .i64 0) 1 8 Tryz.underlying31 hi0 hz0 hz1 hz2 rfl (by decide) _ Q.length _ rfl (World.ownsRow.alloc hQ _) ⟨wr.heap.size, 0, none⟩ 1 1 [_] rfl rfl (cell_one_new _ _ _) ?c2 ?c3 ?c4 ?c5 ?nx)
                case c2 => intro u hu; simp at hu; subst hu; rfl
                case c3 => unfold maxLen; omega
                case c4 => omega
                case c5 => simp; omega
                case nx =>
                  intro v' w4 hown' hgrow _
                  obtain ⟨R1, R2⟩ := ints_snoc z (unhide HI).2 hQ hown' hgrow
                  have HI2 : Hid (Ints z1.heap.size w4 v' ((pl.take (k + 1)).filter (keepF fl)) ∧ Below z1.heap.size z1 w4) := by
                    have e := unhide hft; rw [hk1, if_pos rfl] at e; unfold Hid; rw [e]; exact ⟨R1, R2⟩
                  clear hown' hgrow R1 R2 hQ HI hft
                  go_wp2_with fail
                  go_roundw
                  case rel => exact ⟨k + 1, by go_num, by omega, HI2⟩
                  case measure => simp [intOf]; omega
              · have hk1 : keepF fl z = false := hkf.symm
                have HI2 : Hid (Ints z1.heap.size wr u13 ((pl.take (k + 1)).filter (keepF fl)) ∧ Below z1.heap.size z1 wr) := by
                  have e := unhide hft; rw [hk1, if_neg (by simp), List.append_nil] at e; unfold Hid; rw [e]; exact ⟨hQ, (unhide HI).2⟩
                clear hkf hQ HI hft
                go_wp2_with fail
                go_roundw
                case rel => exact ⟨k + 1, by go_num, by omega, HI2⟩
                case measure => simp [intOf]; omega
          · have hke : k = LL := by omega
            subst hke
            have HI2 : Hid (Ints z1.heap.size wr u13 (pl.filter (keepF fl)) ∧ Below z1.heap.size z1 wr) := by
              have := unhide HI
              rw [List.take_of_length_le (by rw [unhide HLL]; exact Nat.le_refl _)] at this
              exact this
            obtain ⟨na, nc, hne⟩ := own_slice (unhide HI2).1
            subst hne
            generalize hnl : (pl.filter (keepF fl)).length = nl at HI2
            have RRq := (unhide HR2).1.bw (unhide HI2).2
            have N4 : wr.ownsRow w3.heap.size 31 1 u10 j us := by have := RRq.row; simp at this; rw [Nat.min_eq_left (by have := unhide HM; omega)] at this; exact this
            have HRq := hide RRq
            have hszq := (unhide HI2).2.size
            clear HI RRq hkl hk HSM
            go_wp2_with (at_builtin; refine wpList_append_own_at _ rfl (.tmp 67) (.tmp 69) 76 rfl w3.heap.size 31 j0 (.slice none 0 0) 1 24 Tryz.underlying76 hj0 hy0 hy1 hy2 rfl (by decide) u10 j _ rfl (own_alloc' N4 _) ⟨wr.heap.size, 0, none⟩ 1 1 [_] rfl rfl (cell_one_new _ _ _) ?d2 ?d3 ?d4 ?d5 ?ny)
            case d2 => intro u hu; simp at hu; subst hu; rfl
            case d3 => unfold maxLen; omega
            case d4 => omega
            case d5 => simp; omega
            case ny =>
              intro ov' w5 hown2 hgrow2 _ hpl5
              have hnew : ∀ k, (Value.slice na nl nc).ownBlock = some k → k ∉ rrB us := fun k hk c => by
                have q1 := (World.ownsRow.lt (unhide HI2).1 k hk).1
                have q2 := unhide HRL k c
                omega
              have RR5 := ((unhide HRq).bw (bwA wr (.cells #[.slice na nl nc] 31))).push (own_alloc' ((unhide HI2).1.mono (show w3.heap.size ≤ z1.heap.size by omega)) _) hnew (by simp; rw [Nat.min_eq_left (by have := unhide HM; omega)]; exact hown2) hgrow2
              rw [← unhide hsn] at RR5
              have b5 : Below w3.heap.size w3 w5 := Fr.toBase (bw_tr (unhide HR2).2 (unhide HI2).2) (((Fr.refl _ wr).alloc _).tr (Fr.ofGrown hgrow2)) (fun k hk => (World.ownsRow.lt N4 k (by simpa using hk)).1)
              have HR5 := hide (And.intro RR5 b5)
              clear RR5 b5 hown2 hgrow2 hpl5 hnew HRq N4 HI2 HR2
              go_wp2_with fail
              go_roundw
              case rel => exact ⟨j + 1, _, by go_num, by omega, HR5⟩
              case measure => simp [intOf]; omega
    · have hje : j = M := by omega
      subst hje
      have HF : Hid (RR w.heap.size wr u10 (P.map fun p => p.2.filter (keepF fl)) us ∧ Below w.heap.size w wr) := by
        have := unhide HR
        rw [List.take_of_length_le (by rw [unhide HM]; exact Nat.le_refl _)] at this
        exact ⟨this.1.mono (by omega), bw_tr (bw_tr b0 (unhide B3)) this.2⟩
      clear HR HO hlt hjM
      go_wp2
      go_ret2
      exact ⟨_, _, rfl, (unhide HF).1, (unhide HF).2⟩
set_option maxRecDepth 100000 in
set_option maxHeartbeats 1000000 in
theorem rtargets_err {w : World} {v fv : Value} {T : List Nd} (h : Trd w v T) (i : Int) (hE : askE T i ≠ 0) :
    Calls Tryz.prog 27 #[.agg #[v], .int .i64 i, fv] w fun e w' => e = .returned (.tuple #[.slice none 0 0, .int .i64 (askE T i)]) ∧ Below w.heap.size w w' := by
  obtain ⟨w0, hw0⟩ : ∃ w0, w0 = bxw w v := ⟨_, rfl⟩
  have b0 : Below w.heap.size w w0 := by rw [hw0]; exact bwA _ _
  have KA := hide (rpath_err (h.bw b0) i hE)
  have HW : Hid (w0 = w.alloc (.cells #[v] 24)) := hw0
  generalize askE T i = E at *
  have k1 : (E == 0) = false := by simpa using hE
  have k2 : decide (E = 0) = false := by simpa using hE
  have k3 : (E != 0) = true := by simpa using hE
  clear h hw0 hE
  go_enter Tryz.func27, Tryz.ntmps27
  go_wp2_with fail
  rw [← unhide HW]
  refine (unhide KA).mono ?_
  rintro e w1 ⟨rfl, b1⟩
  have b2 := bw_tr b0 b1
  clear KA HW b1
  go_wp2
  go_ret2
  exact ⟨rfl, b2⟩
theorem rtargets_any {w : World} {v fv : Value} {T : List Nd} {fl : List Int} (h : Trd w v T) (hfv : Nums w fv fl) (hfl : fl.length ≤ 140737488355328) (i : Int) :
    Calls Tryz.prog 27 #[.agg #[v], .int .i64 i, fv] w fun e w' => ∃ r us, e = .returned (.tuple #[r, .int .i64 (askE T i)]) ∧ RR w.heap.size w' r (tgtR T i fl) us ∧ Below w.heap.size w w' := by
  unfold tgtR
  by_cases hE : askE T i = 0
  · obtain ⟨hm, n, rfl, hn⟩ := askE_zero hE
    refine (rtargets_ok h hfv hfl hm hE hn).mono ?_
    rintro e w' ⟨r, us, h1, h2, h3⟩
    rw [if_pos hE]
    exact ⟨r, us, by rw [h1, hE], h2, h3⟩
  · refine (rtargets_err h i hE).mono ?_
    rintro e w' ⟨h1, h2⟩
    rw [if_neg hE]
    exact ⟨_, [], h1, rr_nil _ _, h2⟩
end Go.Proofs.YtaanacnloljlmaaGreatDoor
