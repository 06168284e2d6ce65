/- TreeFills, the walk. -/
import Derived.Test.YtjjkhjiiakamaaaDoorTrY2
import Derived.Test.YtjjkhjiiakamaaaDoorTrLawCovers
import Derived.Deep.RegionWith
namespace Go.Proofs.YtjjkhjiiakamaaaDoor
open Go.RowKit Go.Maps

theorem mems_len (T : List Nd) : (mems T).length = ((List.range (nlv T)).filter fun j => pos (ndAt T (2 * j))).length := by
  unfold mems memsOf lvs
  rw [List.length_map, List.filter_map, List.length_map]; rfl
theorem full_iff (T : List Nd) : (fb T = nlv T ∧ (mems T).length = nlv T) ∨ (fb T < nlv T ∧ (mems T).length < nlv T) := by
  have hle := fb_le T
  rw [mems_len]
  rcases Nat.lt_or_ge (fb T) (nlv T) with c | c
  · right
    refine ⟨c, ?_⟩
    have h : ((List.range (nlv T)).filter fun j => pos (ndAt T (2 * j))).length < (List.range (nlv T)).length :=
      List.length_filter_lt_length_iff_exists.2 ⟨fb T, List.mem_range.2 c, by rw [fb_blank]; simp⟩
    simpa using h
  · left
    refine ⟨by omega, ?_⟩
    rw [List.filter_eq_self.2 (fun x hx => fb_pos (by have := List.mem_range.1 hx; omega))]
    simp
theorem bx2_cell {w w1 : World} {v : Value} {cs : Array Value} {t : TypeId} (hb : Below ((bxw w v).alloc (.cells cs t)).heap.size ((bxw w v).alloc (.cells cs t)) w1) : w1.cell? ⟨w.heap.size, 0, none⟩ = some v ∧ w1.heap[w.heap.size + 1]? = some (.cells cs t (0, 0)) := by
  have e0 : w1.heap[w.heap.size]? = some (.cells #[v] 24 (0, 0)) := by
    rw [hb.block _ (by simp; omega), Below.heap_alloc _ _ _ (by simp)]; exact heap_alloc_new _ _
  have e1 : w1.heap[w.heap.size + 1]? = some (.cells cs t (0, 0)) := by
    rw [hb.block _ (by simp)]
    have := heap_alloc_new (bxw w v) (.cells cs t)
    simpa using this
  exact ⟨cell_of_blk e0 rfl, e1⟩
set_option maxRecDepth 100000 in
set_option maxHeartbeats 8000000 in
theorem TreeFills_walk (w : World) (v : Value) (T : List Nd) (h : Trd w v T) (hT : Tab w) (mm ee pp : Int) :
    Calls Tryd.prog 5 #[.agg #[v], .agg #[.int .i64 mm, .int .i64 ee, .int .i64 pp]] w fun e w' => e = .returned (.bool true) ∧ Below w.heap.size w w' := by
  obtain ⟨a, c, rfl⟩ := h.slice
  obtain ⟨W0, hW0⟩ : ∃ W0, W0 = (bxw w (.slice a T.length c)).alloc (.cells #[.int .i64 mm, .int .i64 ee, .int .i64 pp] 26) := ⟨_, rfl⟩
  have hb0 : Below w.heap.size w W0 := by rw [hW0]; exact (bwA _ _).alloc (by simp) _
  have HB : Hid (∀ W, Below W0.heap.size W0 W → W.cell? ⟨w.heap.size, 0, none⟩ = some (.slice a T.length c) ∧ (W.cell? ⟨w.heap.size + 1, 0, none⟩ = some (.int .i64 mm) ∧ W.cell? ⟨w.heap.size + 1, 1, none⟩ = some (.int .i64 ee) ∧ W.cell? ⟨w.heap.size + 1, 2, none⟩ = some (.int .i64 pp)) ∧ Below w.heap.size w W) := fun W hW => by
    have hbb := bw_tr hb0 hW
    subst hW0
    obtain ⟨h1, h2⟩ := bx2_cell hW
    exact ⟨h1, ⟨cell_of_blk h2 rfl, cell_of_blk h2 rfl, cell_of_blk h2 rfl⟩, hbb⟩
  have HH : Hid (∀ W, Below w.heap.size w W → Trd W (.slice a T.length c) T ∧ Tab W) := fun W hW => ⟨h.bw hW, hT.bw hW⟩
  have KE : Hid (∀ W, Below w.heap.size w W → Calls Tryd.prog 11 #[] W fun e w' => e = .returned (.bool true) ∧ Below W.heap.size W w') := fun W hW => alive8 W (hT.bw hW)
  have KT := hide (treeSize_any (h.bw hb0))
  have HW : Hid (W0 = (w.alloc (.cells #[.slice a T.length c] 24)).alloc (.cells #[.int .i64 mm, .int .i64 ee, .int .i64 pp] 26)) := hW0
  have HTL : Hid (0 < T.length → ∃ b o, a = some ⟨b, o, none⟩ ∧ ∀ w', Below w.heap.size w w' → ∀ i, i < T.length → ∃ u, NdC w' b (o + i * 4) (ndAt T i) u ∧ Nums w' u (ndAt T i).un) := h.at.2
  clear h hT hW0
  obtain ⟨N, hN⟩ : ∃ N, N = T.length := ⟨_, rfl⟩
  rw [← hN] at HB HH KT HW ⊢
  have HN := hide hN
  clear hN
  go_enter Tryd.func5, Tryd.ntmps5
  go_wp2_with fail
  rw [← unhide HW]
  refine (unhide KT).mono ?_
  rintro e W1 ⟨n, rfl, hn, b1⟩
  have b2 : Below W0.heap.size W0 (W1.alloc (.cells #[.int .i64 (n : Int)] 3)) := b1.alloc b1.size _
  have KBy := hide (beyond8 W1.heap.size n 1 (W1.alloc (.cells #[.int .i64 (n : Int)] 3)) hn (cell_of_blk (heap_alloc_new W1 _) rfl))
  obtain ⟨W2, hW2⟩ : ∃ W2, W2 = W1.alloc (.cells #[.int .i64 (n : Int)] 3) := ⟨_, rfl⟩
  rw [← hW2] at KBy b2
  have HW2 := hide hW2
  clear hW2 KT HW hn b1
  generalize decide (262144 < n) = by_ at *
  obtain ⟨c0, ⟨d0, d1, d2⟩, hbw⟩ := unhide HB _ b2
  go_wp2_with fail
  rw [← unhide HW2]
  refine (unhide KBy).mono ?_
  rintro e W2 ⟨rfl, rfl⟩
  clear KBy HW2
  cases by_
  rotate_left
  · go_wp2_with fail
    go_ret
    exact ⟨rfl, hbw⟩
  have KR := hide (add_any (unhide HH _ hbw).1 (unhide HH _ hbw).2 mm ee pp)
  obtain ⟨E1, hE1⟩ : ∃ E1, E1 = addE T mm ee pp := ⟨_, rfl⟩
  rw [← hE1] at KR
  have HE1 := hide hE1
  clear hE1
  obtain ⟨AA, hAA⟩ : ∃ AA, AA = addA T mm ee pp := ⟨_, rfl⟩
  rw [← hAA] at KR
  have HAA := hide hAA
  clear hAA
  go_wp2_with fail
  refine (unhide KR).mono ?_
  rintro e W4 ⟨rr, us, rfl, hO, b5⟩
  have b6 := bw_tr b2 b5
  clear KR c0 d0 d1 d2 hbw b2
  obtain ⟨ra, rc, hre⟩ := own_slice hO.row
  subst hre
  obtain ⟨M, hM⟩ : ∃ M, M = (addR T mm ee pp).length := ⟨_, rfl⟩
  rw [← hM] at hO
  rw [← hM]
  have HM := hide hM
  have HO := hide hO
  clear hM hO b5
  obtain ⟨WX, hWX⟩ : ∃ WX, WX = W4.alloc (.cells #[.slice ra M rc] 24) := ⟨_, rfl⟩
  have bX : Below W4.heap.size W4 WX := by rw [hWX]; exact bwA _ _
  have bX0 := bw_tr b6 bX
  have HBX : Hid (∀ W, Below WX.heap.size WX W → W.cell? ⟨W4.heap.size, 0, none⟩ = some (.slice ra M rc) ∧ W.cell? ⟨w.heap.size, 0, none⟩ = some (.slice a N c) ∧ (W.cell? ⟨w.heap.size + 1, 0, none⟩ = some (.int .i64 mm) ∧ W.cell? ⟨w.heap.size + 1, 1, none⟩ = some (.int .i64 ee) ∧ W.cell? ⟨w.heap.size + 1, 2, none⟩ = some (.int .i64 pp)) ∧ Below w.heap.size w W) := fun W hW =>
    ⟨by subst hWX; exact bx_cell hW, unhide HB _ (bw_tr bX0 hW)⟩
  have HO2 : Hid (OTr W2.heap.size WX (.slice ra M rc) (addR T mm ee pp) us) := by have := (unhide HO).bw bX; exact this
  have HWX : Hid (WX = W4.alloc (.cells #[.slice ra M rc] 24)) := hWX
  clear HO bX hWX b6 bX0 HB
  go_upto_if 24 with fail
  rw [← unhide HWX]
  obtain ⟨cX, cT, ⟨d0, d1, d2⟩, hbw⟩ := unhide HBX _ (Below.refl _ _)
  by_cases hE : E1 = 0
  · have hrE := (unhide HE1).symm.trans hE
    obtain ⟨hmT, p0, p1, p2, p3, p4⟩ := addE_ok hrE
    obtain ⟨hR, hf, hT8⟩ := wRoom_sizes hmT p4
    have hRR : addR T mm ee pp = addT T mm ee pp := by unfold addR; rw [if_pos hrE]
    have hAf : AA = fb T := by rw [unhide HAA]; unfold addA; rw [if_pos hrE]
    subst hAf
    have ok := ok_add hrE
    have hlf := fun {i} (hi : i < _) => ndAt_add_leaf (T := T) (m := mm) (e := ee) (p := pp) hR hf hi (i := i)
    have hnA := add_nlv (T := T) (m := mm) (e := ee) (p := pp) hR
    rw [← hnA] at hf hlf
    rw [hRR] at HO2 HM
    have hcase : (fb T = nlv T ∧ (mems T).length = nlv T ∧ nlv T < nlv (addT T mm ee pp)) ∨ (fb T < nlv T ∧ (mems T).length < nlv T ∧ nlv T = nlv (addT T mm ee pp)) := by
      rw [hnA]
      rcases full_iff T with ⟨c1, c2⟩ | ⟨c1, c2⟩
      · exact Or.inl ⟨c1, c2, by unfold wRoom; rw [if_neg (by omega)]; split <;> omega⟩
      · exact Or.inr ⟨c1, c2, by unfold wRoom; rw [if_pos c1]⟩
    clear hnA hR
    generalize addT T mm ee pp = R at *
    subst hE
    obtain ⟨g1, g2, g3, g4, g5⟩ := ok.wd.facts
    have hmR := ok.mayB
    have hRt := (unhide HO2).trdM hmR
    obtain ⟨b', o', hab', hndR⟩ := hRt.at.2 (by omega)
    have hTl : 0 < nlv T → T.length = 2 * nlv T - 1 := fun h => (mayB_okn hmT (nlv_pos h)).wd.facts.2.1
    have HNT : Hid (0 < T.length → ∃ b o, a = some ⟨b, o, none⟩ ∧ ∀ W, Below w.heap.size w W → ∀ j, j < T.length → ∃ u, NdC W b (o + j * 4) (ndAt T j) u ∧ Nums W u (ndAt T j).un) := unhide HTL
    have HNR : Hid (∀ W, Below WX.heap.size WX W → ∀ j, j < R.length → ∃ u, NdC W b' (o' + j * 4) (ndAt R j) u ∧ Nums W u (ndAt R j).un) := hndR
    have HLf : Hid (∀ j, j < nlv R → j ≠ fb T → ndAt R (2 * j) = ndAt T (2 * j)) := fun j h1 h2 => by rw [hlf h1, if_neg h2]
    have HNew : Hid (ndAt R (2 * fb T) = ⟨pp, mm, ee, []⟩) := by unfold Hid; rw [hlf hf, if_pos rfl]
    have HFB : Hid (∀ i, i < fb T → 0 < (ndAt T (2 * i)).pub) := fun i hi => nd_pub hmT _ (fb_pos hi)
    have KS : Hid (∀ W, Below WX.heap.size WX W → Calls Tryd.prog 20 #[.agg #[.slice ra M rc]] W fun e w' => e = .returned (.int .i64 (nlv R : Nat)) ∧ Below W.heap.size W w') := fun W hW => by
      have := size_any (hRt.bw hW) (unhide HH _ (unhide HBX _ hW).2.2.2).2; rw [hmR, if_pos rfl] at this; exact this
    have KST : Hid (∀ W, Below w.heap.size w W → Calls Tryd.prog 20 #[.agg #[.slice a N c]] W fun e w' => e = .returned (.int .i64 (nlv T : Nat)) ∧ Below W.heap.size W w') := fun W hW => by
      have := size_any (unhide HH _ hW).1 (unhide HH _ hW).2; rw [hmT, if_pos rfl] at this; exact this
    have KM : Hid (∀ W, Below w.heap.size w W → Calls Tryd.prog 12 #[.agg #[.slice a N c]] W fun e w' => ∃ ma mc, e = .returned (.slice ma (mems T).length mc) ∧ Below W.heap.size W w') := fun W hW => by
      have := membersX_any (unhide HH _ hW).1 (unhide HH _ hW).2; rw [hmT, if_pos rfl] at this
      refine this.mono ?_
      rintro e w' ⟨r, rfl, h1, h2⟩
      obtain ⟨ma, mc, rfl⟩ := own_slice h1
      exact ⟨ma, mc, rfl, h2⟩
    subst hab'
    have hM15 : (M : Int) ≤ 15 := by have := unhide HM; omega
    have HLR : Hid (M = 2 * nlv R - 1 ∧ (0 < nlv T → N = 2 * nlv T - 1) ∧ R.length = M ∧ T.length = N) := ⟨by rw [unhide HM, g2], fun h => by rw [unhide HN, hTl h], (unhide HM).symm, (unhide HN).symm⟩
    have hnR8 : (nlv R : Int) ≤ 8 := by omega
    have hnT8 : (nlv T : Int) ≤ 8 := by omega
    have hml := memsOf_len (lvs T)
    rw [lvs_len] at hml
    have hML8 : ((mems T).length : Int) ≤ 8 := by unfold mems; omega
    have hfA : (fb T : Int) < (nlv R : Int) := by omega
    clear hml HM HN HTL HE1 HH HO2 hRt hndR ok g1 g2 g3 g4 g5 hmR hmT hRR hrE hTl hb0 HWX HAA hlf hf p0 p1 p2 p3 p4 hT8
    generalize nlv R = nR at *
    generalize nlv T = nT at *
    generalize (mems T).length = ML at *
    generalize fb T = f at *
    have KM2 := hide (unhide KM _ hbw)
    go_wp2_with fail
    refine (unhide KM2).mono ?_
    rintro e W5 ⟨ma, mc, rfl, b7⟩
    clear KM2 KM cX cT d0 d1 d2
    have hbw5 := bw_tr hbw b7
    obtain ⟨cX, cT, ⟨d0, d1, d2⟩, -⟩ := unhide HBX _ b7
    have KS2 := hide (unhide KST _ hbw5)
    go_wp2_with fail
    refine (unhide KS2).mono ?_
    rintro e W6 ⟨rfl, b8⟩
    have belX := bw_tr b7 b8
    clear KS2 cX cT d0 d1 d2 hbw hbw5 b7 b8
    have belD : Below WX.heap.size WX W6.drew := belX.drew
    have HS : Hid (∀ W, Below WX.heap.size WX W → W.cell? ⟨W4.heap.size, 0, none⟩ = some (.slice (some ⟨b', o', none⟩) M rc) ∧ W.cell? ⟨w.heap.size, 0, none⟩ = some (.slice a N c)) := fun W hW => ⟨(unhide HBX _ hW).1, (unhide HBX _ hW).2.1⟩
    have KST2 : Hid (∀ W, Below WX.heap.size WX W → Calls Tryd.prog 20 #[.agg #[.slice a N c]] W fun e w' => e = .returned (.int .i64 (nT : Nat)) ∧ Below W.heap.size W w') := fun W hW => unhide KST _ (unhide HBX _ hW).2.2.2
    have S0 := unhide HS _ belD
    have HFL : Hid ((((ML : Int) == (nT : Int)) = true ∧ decide ((nT : Int) < (nR : Int)) = true ∧ ((f : Int) != (ML : Int)) = false ∧ nT < nR ∧ f = ML) ∨ (((ML : Int) == (nT : Int)) = false ∧ nT = nR)) := by
      rcases hcase with ⟨h1, h2, h3⟩ | ⟨h1, h2, h3⟩
      · left; refine ⟨?_, ?_, ?_, by omega, by omega⟩ <;> simp <;> omega
      · right; refine ⟨by simp; omega, h3⟩
    have HCS := hide hcase
    clear hcase
    go_upto_region 8 with fail
    generalize ((ML : Int) == (nT : Int)) = fl at *
    go_cut [57] from 43 to 57 (fun v57 wx => v57 = .bool false ∧ Below WX.heap.size WX wx)
    case first =>
      rcases unhide HFL with ⟨rfl, e2, e3, e4, rfl⟩ | ⟨rfl, rfl⟩
      · go_region_held3 (fun W : World => W.cell? ⟨W4.heap.size, 0, none⟩ = some (.slice (some ⟨b', o', none⟩) M rc) ∧ W.cell? ⟨w.heap.size, 0, none⟩ = some (.slice a N c)) (first | with_reducible exact S0 | with_reducible exact S1 | with_reducible exact S2) (first
          | (go_at_call 20; refine (unhide KST2 _ x1).mono ?_; rintro e z2 ⟨rfl, y2⟩; have x2 := bw_tr x1 y2; have S2 := unhide HS _ x2)
          | (go_at_call 20; refine (unhide KS _ belD).mono ?_; rintro e z1 ⟨rfl, y1⟩; have x1 := bw_tr belD y1; have S1 := unhide HS _ x1)
          | fail)
        all_goals
          go_wp2_with fail
          go_meet
          case rel => exact ⟨by simp, x2⟩
      · obtain ⟨k1, k2⟩ := S0
        have e2 : decide ((nT : Int) < (nT : Int)) = false := by simp
        first
          | go_region_with (first
              | (go_at_call 20; refine (unhide KST2 _ x1).mono ?_; rintro e z2 ⟨rfl, y2⟩; have x2 := bw_tr x1 y2; obtain ⟨k5, k6⟩ := unhide HS _ x2)
              | (go_at_call 20; refine (unhide KS _ belD).mono ?_; rintro e z1 ⟨rfl, y1⟩; have x1 := bw_tr belD y1; obtain ⟨k3, k4⟩ := unhide HS _ x1)
              | fail)
          | fail
        all_goals
          go_wp2_with fail
          go_meet
          case rel => exact ⟨by simp, x2⟩
    case rest =>
      clear S0 belD belX HFL
      obtain ⟨rfl, belX⟩ := hcut
      have hfT : f ≤ nT := by rcases unhide HCS with h | h <;> omega
      have hnTR : nT ≤ nR := by rcases unhide HCS with h | h <;> omega
      have hf8 : (f : Int) ≤ 8 := by omega
      clear HCS
      obtain ⟨cX, cT, ⟨d0, d1, d2⟩, hbw⟩ := unhide HBX _ belX
      go_wp2_with fail
      go_loopw [10] (fun iv wr => ∃ k : Nat, iv = .int .i64 (k : Int) ∧ k ≤ f ∧ wr = wc) (fun iv _ => (f - (intOf iv)).toNat)
      case atStart => exact ⟨0, rfl, by omega, rfl⟩
      case round =>
        obtain ⟨k, rfl, hkf, rfl⟩ := hrel
        by_cases hlt : k < f
        · have q1 : (k : Int) < (f : Int) := by omega
          obtain ⟨l1, l2, l3, l4⟩ := unhide HLR
          have l2 := l2 (by omega)
          obtain ⟨b, o, hab, hnd⟩ := unhide HNT (by omega)
          obtain ⟨y, hy⟩ : ∃ y, y = 2 * k := ⟨_, rfl⟩
          obtain ⟨u, nc, -⟩ := hnd _ hbw y (by omega)
          have hp := unhide HFB k hlt
          rw [← hy] at hp
          have n0 := nc.c0
          have qy : 2 * (k : Int) = (y : Int) := by omega
          have qN : (y : Int) < (N : Int) := by omega
          have q0 : (0 : Int) ≤ (y : Int) := by omega
          have hN15 : (N : Int) ≤ 15 := by omega
          generalize (ndAt T y).pub = pb at *
          have hpb : (pb == 0) = false := by simp; omega
          rw [hab] at cT
          clear hnd nc hy l1 l2 l3 l4 hab
          go_wp2_with fail
          go_roundw
          case rel => first | exact ⟨k + 1, by go_num, by omega, rfl⟩ | ((repeat apply Exists.intro); exact ⟨⟨k + 1, by go_num, by omega, rfl⟩, rfl⟩) | exact ⟨k + 1, by go_num, by omega, trivial⟩
          case measure => simp [intOf]; omega
        · obtain rfl : f = k := by omega
          clear cX cT d0 d1 d2 hbw
          generalize wr = WR at *
          go_wp2_with fail
          go_loopw [11] (fun iv wq => ∃ j : Nat, iv = .int .i64 (j : Int) ∧ j ≤ nT ∧ Below WR.heap.size WR wq) (fun iv _ => (nT - (intOf iv)).toNat)
          case atStart => exact ⟨0, rfl, by omega, Below.refl _ _⟩
          case round =>
            obtain ⟨j, rfl, hjn, hbel2⟩ := hrel
            have bel5 := bw_tr belX hbel2
            obtain ⟨cX, cT, ⟨d0, d1, d2⟩, hbw⟩ := unhide HBX _ bel5
            have K1 := hide (unhide KST2 _ bel5)
            go_wp2_with fail
            refine (unhide K1).mono ?_
            rintro e W5 ⟨rfl, b7⟩
            have belR := bw_tr hbel2 b7
            have belX5 := bw_tr bel5 b7
            clear K1 cX cT d0 d1 d2 hbw b7 bel5 hbel2
            by_cases hlt : j < nT
            · have q1 : (j : Int) < (nT : Int) := by omega
              by_cases hji : j = f
              · have hji2 : (j : Int) = (f : Int) := by omega
                have hji3 : ((j : Int) != (f : Int)) = false := by simp [hji2]
                clear hji2 hji
                go_upto_region 18 with fail
                go_quiet (fail)
                all_goals
                  go_wp2_with fail
                  go_roundw
                  case rel => first | exact ⟨j + 1, by go_num, by omega, below_drewN belR _⟩ | ((repeat apply Exists.intro); exact ⟨⟨j + 1, by go_num, by omega, below_drewN belR _⟩, rfl⟩)
                  case measure => simp [intOf]; omega
              · have hji2 : ¬ (j : Int) = (f : Int) := by omega
                have hji3 : ((j : Int) != (f : Int)) = true := by simp [hji2]
                obtain ⟨y, hy⟩ : ∃ y, y = 2 * j := ⟨_, rfl⟩
                obtain ⟨l1, l2, l3, l4⟩ := unhide HLR
                have l2 := l2 (by omega)
                obtain ⟨b, o, hab, hndT⟩ := unhide HNT (by omega)
                have hyR : y < R.length := by omega
                have hyT : y < T.length := by omega
                have hnd := unhide HLf j (by omega) hji
                rw [← hy] at hnd
                have belD : Below WX.heap.size WX W5.drew := belX5.drew
                have bd : Below W5.heap.size W5 W5.drew := (Below.refl _ _).drew
                obtain ⟨cX, cT, -, hbw⟩ := unhide HBX _ belD
                obtain ⟨u1, n1, m1⟩ := unhide HNR _ belD y hyR
                obtain ⟨u2, n2, m2⟩ := hndT _ hbw y hyT
                rw [hnd] at n1 m1
                have K3 := hide (sameNode_eq m1 m2)
                have qy : 2 * (j : Int) = (y : Int) := by omega
                have qN : (y : Int) < (N : Int) := by omega
                have qw : IntKind.i64.wrap (2 * (j : Int)) = (y : Int) := by rw [qy]; exact wrap_i64_nat y (by omega)
                have qM : (y : Int) < (M : Int) := by omega
                have q0 : (0 : Int) ≤ (y : Int) := by omega
                have hN15 : (N : Int) ≤ 15 := by omega
                have qMn : y < M := by omega
                have qNn : y < N := by omega
                have qt : (y : Int).toNat = y := by omega
                clear qy
                have belRD : Below WR.heap.size WR W5.drew := belR.drew
                obtain ⟨n10, n11, n12, n13⟩ := n1
                obtain ⟨n20, n21, n22, n23⟩ := n2
                rw [hab] at cT
                clear hnd hyR hyT m1 m2 l1 l2 l3 l4 hy hndT hab
                generalize (ndAt T y).pub = pb at *
                generalize (ndAt T y).mem = mb at *
                generalize (ndAt T y).ep = eb at *
                go_upto_region 18 with fail
                generalize hwd : W5.drew = WD at *
                have HC : Hid (∀ W, Below WD.heap.size WD W → W.cell? ⟨W4.heap.size, 0, none⟩ = some (.slice (some ⟨b', o', none⟩) M rc) ∧ W.cell? ⟨w.heap.size, 0, none⟩ = some (.slice (some ⟨b, o, none⟩) N c)
                   ∧ (W.cell? ⟨b', o' + y * 4, none⟩ = some (.int .i64 pb) ∧ W.cell? ⟨b', o' + y * 4 + 1, none⟩ = some (.int .i64 mb) ∧ W.cell? ⟨b', o' + y * 4 + 2, none⟩ = some (.int .i64 eb) ∧ W.cell? ⟨b', o' + y * 4 + 3, none⟩ = some u1)
                   ∧ (W.cell? ⟨b, o + y * 4, none⟩ = some (.int .i64 pb) ∧ W.cell? ⟨b, o + y * 4 + 1, none⟩ = some (.int .i64 mb) ∧ W.cell? ⟨b, o + y * 4 + 2, none⟩ = some (.int .i64 eb) ∧ W.cell? ⟨b, o + y * 4 + 3, none⟩ = some u2)) := fun W hW =>
                  ⟨cell_keep cX (hW.block _ (lt_of_cell cX)), cell_keep cT (hW.block _ (lt_of_cell cT)),
                    ⟨cell_keep n10 (hW.block _ (lt_of_cell n10)), cell_keep n11 (hW.block _ (lt_of_cell n11)), cell_keep n12 (hW.block _ (lt_of_cell n12)), cell_keep n13 (hW.block _ (lt_of_cell n13))⟩,
                    ⟨cell_keep n20 (hW.block _ (lt_of_cell n20)), cell_keep n21 (hW.block _ (lt_of_cell n21)), cell_keep n22 (hW.block _ (lt_of_cell n22)), cell_keep n23 (hW.block _ (lt_of_cell n23))⟩⟩
                subst hwd
                have S0 := unhide HC _ (Below.refl _ _)
                clear cX cT n10 n11 n12 n13 n20 n21 n22 n23
                go_region_held3 (fun W : World => W.cell? ⟨W4.heap.size, 0, none⟩ = some (.slice (some ⟨b', o', none⟩) M rc) ∧ W.cell? ⟨w.heap.size, 0, none⟩ = some (.slice (some ⟨b, o, none⟩) N c)
                   ∧ (W.cell? ⟨b', o' + y * 4, none⟩ = some (.int .i64 pb) ∧ W.cell? ⟨b', o' + y * 4 + 1, none⟩ = some (.int .i64 mb) ∧ W.cell? ⟨b', o' + y * 4 + 2, none⟩ = some (.int .i64 eb) ∧ W.cell? ⟨b', o' + y * 4 + 3, none⟩ = some u1)
                   ∧ (W.cell? ⟨b, o + y * 4, none⟩ = some (.int .i64 pb) ∧ W.cell? ⟨b, o + y * 4 + 1, none⟩ = some (.int .i64 mb) ∧ W.cell? ⟨b, o + y * 4 + 2, none⟩ = some (.int .i64 eb) ∧ W.cell? ⟨b, o + y * 4 + 3, none⟩ = some u2)) (first | with_reducible exact S0 | with_reducible exact S1) (first
                  | (go_at_call 24; refine (unhide K3).mono ?_; rintro e z1 ⟨rfl, y1⟩; have S1 := unhide HC _ y1)
                  | fail)
                all_goals
                  have belR9 := bw_tr belRD y1
                  go_wp2_with fail
                  go_roundw
                  case rel => first | exact ⟨j + 1, by go_num, by omega, belR9⟩ | ((repeat apply Exists.intro); exact ⟨⟨j + 1, by go_num, by omega, belR9⟩, rfl⟩) | exact ⟨j + 1, by omega, by omega⟩
                  case measure => simp [intOf]; omega
            · obtain rfl : nT = j := by omega
              obtain ⟨y, hy⟩ : ∃ y, y = 2 * f := ⟨_, rfl⟩
              obtain ⟨l1, l2, l3, l4⟩ := unhide HLR
              have hyR : y < R.length := by omega
              have hnd := unhide HNew
              rw [← hy] at hnd
              have belD : Below WX.heap.size WX W5.drew := belX5.drew
              obtain ⟨cX, cT, ⟨d0, d1, d2⟩, hbw⟩ := unhide HBX _ belD
              obtain ⟨u1, n1, -⟩ := unhide HNR _ belD y hyR
              rw [hnd] at n1
              obtain ⟨n10, n11, n12, -⟩ := n1
              simp only at n10 n11 n12
              have KE2 := hide (unhide KE _ hbw)
              have qy : 2 * (f : Int) = (y : Int) := by omega
              have qw : IntKind.i64.wrap (2 * (f : Int)) = (y : Int) := by rw [qy]; exact wrap_i64_nat y (by omega)
              have qM : (y : Int) < (M : Int) := by omega
              have q0 : (0 : Int) ≤ (y : Int) := by omega
              have qMn : y < M := by omega
              have qt : (y : Int).toNat = y := by omega
              have r1 : (mm == mm) = true := by simp
              have r2 : (ee == ee) = true := by simp
              have r3 : (pp == pp) = true := by simp
              clear qy hnd hyR l1 l2 l3 l4 hy cT
              go_upto_region 20 with fail
              generalize hwd : W5.drew = WD at *
              have HC : Hid (∀ W, Below WD.heap.size WD W → W.cell? ⟨W4.heap.size, 0, none⟩ = some (.slice (some ⟨b', o', none⟩) M rc)
                 ∧ (W.cell? ⟨b', o' + y * 4, none⟩ = some (.int .i64 pp) ∧ W.cell? ⟨b', o' + y * 4 + 1, none⟩ = some (.int .i64 mm) ∧ W.cell? ⟨b', o' + y * 4 + 2, none⟩ = some (.int .i64 ee))
                 ∧ (W.cell? ⟨w.heap.size + 1, 0, none⟩ = some (.int .i64 mm) ∧ W.cell? ⟨w.heap.size + 1, 1, none⟩ = some (.int .i64 ee) ∧ W.cell? ⟨w.heap.size + 1, 2, none⟩ = some (.int .i64 pp))) := fun W hW =>
                ⟨cell_keep cX (hW.block _ (lt_of_cell cX)),
                  ⟨cell_keep n10 (hW.block _ (lt_of_cell n10)), cell_keep n11 (hW.block _ (lt_of_cell n11)), cell_keep n12 (hW.block _ (lt_of_cell n12))⟩,
                  ⟨cell_keep d0 (hW.block _ (lt_of_cell d0)), cell_keep d1 (hW.block _ (lt_of_cell d1)), cell_keep d2 (hW.block _ (lt_of_cell d2))⟩⟩
              subst hwd
              have S0 := unhide HC _ (Below.refl _ _)
              clear cX n10 n11 n12 d0 d1 d2
              go_region_held3 (fun W : World => W.cell? ⟨W4.heap.size, 0, none⟩ = some (.slice (some ⟨b', o', none⟩) M rc)
                 ∧ (W.cell? ⟨b', o' + y * 4, none⟩ = some (.int .i64 pp) ∧ W.cell? ⟨b', o' + y * 4 + 1, none⟩ = some (.int .i64 mm) ∧ W.cell? ⟨b', o' + y * 4 + 2, none⟩ = some (.int .i64 ee))
                 ∧ (W.cell? ⟨w.heap.size + 1, 0, none⟩ = some (.int .i64 mm) ∧ W.cell? ⟨w.heap.size + 1, 1, none⟩ = some (.int .i64 ee) ∧ W.cell? ⟨w.heap.size + 1, 2, none⟩ = some (.int .i64 pp))) (first | with_reducible exact S0 | with_reducible exact S1) (first
                | (go_at_call 11; refine (unhide KE2).mono ?_; rintro e z1 ⟨rfl, y1⟩; have S1 := unhide HC _ y1)
                | fail)
              all_goals
                have belE := bw_tr hbw y1
                go_wp2_with fail
                go_ret
                exact ⟨rfl, belE⟩
  · have hM0 : M = 0 := by
      have hrE : ¬ addE T mm ee pp = 0 := fun h => hE ((unhide HE1).trans h)
      rw [unhide HM]; unfold addR; rw [if_neg hrE]; rfl
    have hA0 : AA = 0 := by
      have hrE : ¬ addE T mm ee pp = 0 := fun h => hE ((unhide HE1).trans h)
      rw [unhide HAA]; unfold addA; rw [if_neg hrE]
    subst hM0 hA0
    have KE2 := hide (unhide KE _ hbw)
    have hE1 : (E1 != 0) = true := by simp [hE]
    rw [hE1]
    go_wp2_with fail
    refine (unhide KE2).mono ?_
    rintro e W9 ⟨rfl, b9⟩
    go_wp2
    go_ret
    exact ⟨rfl, bw_tr hbw b9⟩
end Go.Proofs.YtjjkhjiiakamaaaDoor
