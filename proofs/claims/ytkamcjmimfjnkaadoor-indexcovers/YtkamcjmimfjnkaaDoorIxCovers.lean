/- IndexCovers: for every number x and every number of leaves, the law answers true: in a tree of at most 1024 leaves that has x the leaves below x and below those of its Copath are all leaves, each once. No condition. -/
import Derived.Test.YtkamcjmimfjnkaaDoorIxFrame
import Derived.Test.YtkamcjmimfjnkaaDoorCards
import Derived.Test.YtkamcjmimfjnkaaDoorTie
import Derived.Test.YtkamcjmimfjnkaaDoorIxCovA
import Derived.Test.YtkamcjmimfjnkaaDoorIxJoin
namespace Go.Proofs.YtkamcjmimfjnkaaDoor
open Go.ChangeShapes Go.WideShapes Go.ChangeAt Go.RowKit

theorem setCell_bw {w wq : World} {G k : Nat} {c : Value} (h : Below w.heap.size w wq) (hG : w.heap.size ≤ G) : Below w.heap.size w (wq.setCell ⟨G, k, none⟩ c) :=
  ⟨h.os, h.tape, h.output, by simpa [World.setCell] using h.size, fun j hj => by rw [Below.heap_setCell _ _ _ _ (show j ≠ G by omega)]; exact h.block j hj⟩
theorem wid_zero {L : Int} (h : wid L ≠ 0) : isT L = true ∧ wid L = 2 * L - 1 := by
  unfold wid at *
  cases e : isT L
  · rw [e] at h; simp at h
  · simp
theorem inn_wid2 {x L : Int} (h : 0 ≤ x) (h2 : ¬ wid L ≤ x) : inn x L = true := by
  rw [inn_wid]; simp [h]; omega

set_option maxRecDepth 100000 in
set_option maxHeartbeats 4000000 in
theorem IndexCovers_walk (x y : Int) (w : World) (_x1 : -9223372036854775808 ≤ x) (_x2 : x ≤ 9223372036854775807) (_y1 : -9223372036854775808 ≤ y) (_y2 : y ≤ 9223372036854775807) (hT : Tab w) :
    Calls Tryd.prog 7 #[.int .i64 x, .int .i64 y] w fun e w' => e = .returned (.bool true) ∧ Below w.heap.size w w' := by
  have K1 := width_any y w
  by_cases h1 : 1024 < y
  · clear K1
    go_enter Tryd.func7, Tryd.ntmps7
    go_wp2_with fail
    refine (alive_any w hT).mono ?_
    rintro e w9 ⟨rfl, hb9⟩
    go_wp2
    go_ret
    exact ⟨rfl, hb9⟩
  · by_cases h2 : wid y = 0
    · rw [h2] at K1
      clear h2
      go_enter Tryd.func7, Tryd.ntmps7
      go_wp2_with fail
      refine (K1).mono ?_
      rintro e w ⟨rfl, rfl⟩
      go_wp2_with fail
      refine (alive_any w hT).mono ?_
      rintro e w9 ⟨rfl, hb9⟩
      go_wp2
      go_ret
      exact ⟨rfl, hb9⟩
    · have h2' : (wid y == 0) = false := by simpa using h2
      by_cases h3 : x < 0
      · clear h2
        generalize wid y = W at *
        go_enter Tryd.func7, Tryd.ntmps7
        go_wp2_with fail
        refine (K1).mono ?_
        rintro e w ⟨rfl, rfl⟩
        go_wp2_with fail
        refine (alive_any w hT).mono ?_
        rintro e w9 ⟨rfl, hb9⟩
        go_wp2
        go_ret
        exact ⟨rfl, hb9⟩
      · by_cases h4 : wid y ≤ x
        · clear h2
          generalize wid y = W at *
          go_enter Tryd.func7, Tryd.ntmps7
          go_wp2_with fail
          refine (K1).mono ?_
          rintro e w ⟨rfl, rfl⟩
          go_wp2_with fail
          refine (K1).mono ?_
          rintro e w ⟨rfl, rfl⟩
          go_wp2_with fail
          refine (alive_any w hT).mono ?_
          rintro e w9 ⟨rfl, hb9⟩
          go_wp2
          go_ret
          exact ⟨rfl, hb9⟩
        · obtain ⟨ht, hwd⟩ := wid_zero h2
          have hx := inn_wid2 (by omega) h4
          have hyb := isT_bounds ht
          have HX := hide hx
          obtain ⟨n, rfl⟩ : ∃ n : Nat, y = n := ⟨y.toNat, by omega⟩
          clear h2 ht hwd hx
          generalize wid (n : Int) = W at *
          have hn0 : 0 < n := by omega
          have hn1 : n ≤ 1024 := by omega
          go_enter Tryd.func7, Tryd.ntmps7
          go_wp2_with fail
          refine (K1).mono ?_
          rintro e w ⟨rfl, rfl⟩
          go_wp2_with fail
          refine (K1).mono ?_
          rintro e w ⟨rfl, rfl⟩
          obtain ⟨i0, hi, hz0, hz1, hz2⟩ := info_parts Tryd.infoInt
          obtain ⟨wm, hmk, hown, hgr⟩ := run_makeSlice_full (P := Tryd.prog) (w := w) w.heap.size 32 3 i0 (.int .i64 0) 1 Tryd.underlying32 hi hz0 hz1 .i64 .i64 n (by omega) (by rw [hz2]; omega) (by unfold maxLen; omega) (Nat.le_refl _)
          have hmet := made_met hown
          have bm : Below w.heap.size w wm := (Below.refl _ _).grown hgr (Nat.le_refl _) (fun k hk => by cases hk)
          obtain ⟨G, hG⟩ : ∃ G, G = w.heap.size := ⟨_, rfl⟩
          have hGw : w.heap.size ≤ G := by omega
          rw [← hG] at hmk hmet
          have hGm : G < wm.heap.size := by
            obtain ⟨cs, hc, _⟩ := hmet
            rcases Nat.lt_or_ge G wm.heap.size with h | h
            · exact h
            · rw [Array.getElem?_eq_none h] at hc; cases hc
          clear hown hgr hG hi hz0 hz1 hz2
          go_wp2_with fail
          refine (copath_any x n (wm.alloc (.cells #[.int .i64 x] 3)) ((hT.bw bm).bw ((Below.refl _ _).alloc (Nat.le_refl _) _))).mono ?_
          rintro e w1 ⟨u, rfl, hu, hb1⟩
          have bA : Below wm.heap.size wm w1 := bw_tr ((Below.refl _ _).alloc (Nat.le_refl _) _) hb1
          have hone := (one_own wm x).bw hb1
          have hsz := bA.size
          have hlen := copF_len 31 x n
          have hlen2 := dirF_le31 31 x n
          go_wp2_with (at_builtin; refine wpList_join rfl (.tmp 33) (.tmp 36) rfl wm.heap.size _ _ _ [x] (cop x n) rfl hone rfl hu ?c1 hsz ?nx)
          case c1 => simp [cop]; omega
          case nx =>
            intro v w2 hv hb2
            have bB : Below wm.heap.size wm w2 := bA.trans hb2
            have hmet2 := hmet.bw bB
            have b2 : Below w.heap.size w w2 := bw_tr bm bB
            obtain ⟨ND, hND⟩ : ∃ l, l = x :: cop x n := ⟨_, rfl⟩
            have e1 : x :: cop x n = ND := hND.symm
            rw [e1] at hv
            have hnl : ND.length ≤ 32 := by rw [hND]; simp [cop]; omega
            have hin : ∀ z ∈ ND, inn z n = true := fun z hz => by
              rw [hND] at hz
              rcases List.mem_cons.1 hz with h | h
              · rw [h]; exact unhide HX
              · exact copF_inn 31 x z h
            have hcv : ∀ k : Nat, k < n → cnt ND k = 1 := fun k hk => by rw [hND]; exact covers (unhide HX) k (by omega)
            have hpos : 0 < ND.length := by rw [hND]; simp
            clear hND e1 hu hone hb1 hb2 hmet bA hlen hlen2
            -- the row of nodes lies in a block of its own
            obtain ⟨g, cap, rfl, hgB, hcell⟩ : ∃ g cap, v = .slice (some ⟨g, 0, none⟩) ND.length cap ∧ wm.heap.size ≤ g ∧ ∀ j z, ND[j]? = some z → w2.cell? ⟨g, j, none⟩ = some (.int .i64 z) := by
              rcases hv.2 with ⟨_, h⟩ | ⟨g, cap, cur, h, hb, _⟩
              · omega
              · obtain ⟨g', o', cap', h', hc⟩ := hv.nums.open hpos
                rw [h] at h'
                cases h'
                exact ⟨g, cap, h, hb, fun j z hj => by have := hc j z hj; simpa using this⟩
            have hne : g ≠ G := by omega
            clear hv bB
            obtain ⟨N, hN⟩ : ∃ N, N = ND.length := ⟨_, rfl⟩
            rw [← hN] at hnl hpos ⊢
            have HL := hide hN
            have HI := hide (And.intro hin hcv)
            clear hN hin hcv hpos
            go_wp2_with fail
            go_loopw [7] (fun iv wr => ∃ i : Nat, iv = .int .i64 i ∧ i ≤ N ∧ Met G n wr (cnt (ND.take i)) ∧ Hid (∀ j z, ND[j]? = some z → wr.cell? ⟨g, j, none⟩ = some (.int .i64 z)) ∧ Below w.heap.size w wr) (fun iv _ => (N - intOf iv).toNat)
            case atStart => exact ⟨0, rfl, by omega, hmet2.congr (fun k _ => by simp [cnt]), hcell, b2⟩
            case round =>
              obtain ⟨i, rfl, hiN, hm, hc, hbel⟩ := hrel
              by_cases hin : i < N
              · obtain ⟨z, hzi⟩ : ∃ z, ND[i]? = some z := ⟨_, List.getElem?_eq_getElem (by have := unhide HL; omega)⟩
                have c := unhide hc i z hzi
                have hz1 := (unhide HI).1 z (List.mem_of_getElem? hzi)
                obtain ⟨s1, s2, s3⟩ := span_inn hz1
                have hzb : z ≤ 9223372036854775807 := by obtain ⟨d, k, m, _, _, e, _, _, h4⟩ := inn_open hz1; omega
                have G1 := span_any z wr hzb (hT.bw hbel)
                have hcn : ∀ k, cnt (ND.take (i + 1)) k = cnt (ND.take i) k + cov z k := fun k => by
                  rw [List.take_add_one, hzi]; exact cnt_snoc _ _ _
                unfold cov at hcn
                obtain ⟨a, ha⟩ : ∃ a : Nat, spF z = a := ⟨(spF z).toNat, by omega⟩
                obtain ⟨b, hb⟩ : ∃ b : Nat, spT z = b := ⟨(spT z).toNat, by omega⟩
                rw [ha, hb] at G1
                have hcb : ∀ k, 0 ≤ cnt (ND.take i) k ∧ cnt (ND.take i) k ≤ 32 := fun k => by
                  have := cnt_bounds (ND.take i) k
                  have h2 : (ND.take i).length ≤ ND.length := by rw [List.length_take]; omega
                  have h3 := unhide HL
                  omega
                have HZ := hide (And.intro hcn hcb)
                rw [ha, hb] at s2
                rw [ha] at s1
                rw [hb] at s3
                have HAB := hide (And.intro ha hb)
                clear hcn hcb ha hb hzi hz1 hzb
                go_wp2_with fail
                refine (G1).mono ?_
                rintro e wr ⟨rfl, rfl⟩
                go_wp2_with fail
                go_loopw [10] (fun kv wq => ∃ k : Nat, kv = .int .i64 k ∧ a ≤ k ∧ k ≤ b + 1 ∧ Met G n wq (fun j => cnt (ND.take i) j + if a ≤ j ∧ j < k then 1 else 0) ∧ Hid (∀ j z, ND[j]? = some z → wq.cell? ⟨g, j, none⟩ = some (.int .i64 z)) ∧ Below w.heap.size w wq) (fun kv _ => (b + 1 - intOf kv).toNat)
                case atStart => exact ⟨a, rfl, by omega, by omega, hm.congr (fun j _ => by rw [if_neg (by omega)]; omega), hc, hbel⟩
                case round =>
                  obtain ⟨k, rfl, hk1, hk2, hmq, hcq, hbq⟩ := hrel
                  by_cases hkb : k ≤ b
                  · have hkn : k < n := by omega
                    obtain ⟨c1, f1⟩ := hmq.cell hkn
                    have hbd := (unhide HZ).2 k
                    have e0 : (cnt (ND.take i) k + if a ≤ k ∧ k < k then 1 else 0) = cnt (ND.take i) k := by rw [if_neg (by omega)]; omega
                    simp only [e0] at c1
                    have hst := hmq.store hkn (cnt (ND.take i) k + 1)
                    generalize hV : cnt (ND.take i) k = V at *
                    have HV := hide hV
                    have hw1 : wrap64 (V + 1) = V + 1 := wrap64_id (by omega) (by omega)
                    have hst2 := hst.congr (G := fun j => cnt (ND.take i) j + if a ≤ j ∧ j < k + 1 then 1 else 0) (fun j hj => by
                      by_cases h : j = k
                      · subst h; rw [if_pos rfl, if_pos (by omega), hV]
                      · rw [if_neg h]
                        by_cases h2 : a ≤ j ∧ j < k
                        · rw [if_pos h2, if_pos (by omega)]
                        · rw [if_neg h2, if_neg (by omega)])
                    clear hV hst e0
                    go_wp2_with fail
                    go_roundw
                    case rel =>
                      refine ⟨k + 1, by go_num, by omega, by omega, hst2, ?_, ?_⟩
                      · intro j z' hj
                        have := unhide hcq j z' hj
                        rw [← this]
                        exact World.cell?_of_block (Below.heap_setCell _ _ _ _ hne)
                      · exact setCell_bw hbq hGw
                    case measure => simp only [intOf]; omega
                  · have hkb' : k = b + 1 := by omega
                    subst hkb'
                    have hm3 := hmq.congr (G := cnt (ND.take (i + 1))) (fun j _ => by
                      rw [(unhide HZ).1 j, (unhide HAB).1, (unhide HAB).2]
                      congr 1
                      by_cases h : a ≤ j ∧ j < b + 1
                      · rw [if_pos h, if_pos (by omega)]
                      · rw [if_neg h, if_neg (by omega)])
                    go_wp2_with fail
                    go_roundw
                    case rel => exact ⟨i + 1, by go_num, by omega, hm3, hcq, hbq⟩
                    case measure => simp only [intOf]; omega
              · have hie : i = N := by omega
                subst hie
                have hm1 := hm.congr (G := fun _ => 1) (fun k hk => by
                  rw [List.take_of_length_le (by have := unhide HL; omega)]
                  exact (unhide HI).2 k hk)
                clear hm
                go_wp2_with fail
                go_loopw [11] (fun kv wq => ∃ k : Nat, kv = .int .i64 k ∧ k ≤ n ∧ wq = wr) (fun kv _ => (n - intOf kv).toNat)
                case atStart => exact ⟨0, rfl, by omega, rfl⟩
                case round =>
                  obtain ⟨k, rfl, hk, rfl⟩ := hrel
                  by_cases hkn : k < n
                  · obtain ⟨c1, _⟩ := hm1.cell hkn
                    go_wp2_with fail
                    go_roundw
                    case rel => exact ⟨k + 1, by go_num, by omega, trivial⟩
                    case measure => simp only [intOf]; omega
                  · have hke : k = n := by omega
                    subst hke
                    go_wp2_with fail
                    refine (alive_any _ (hT.bw hbel)).mono ?_
                    rintro e w9 ⟨rfl, hb9⟩
                    go_wp2
                    go_ret
                    exact ⟨rfl, bw_tr hbel hb9⟩

set_option maxRecDepth 100000 in
theorem IndexCovers_lifted (os : Os) (started : os.Started) (H : Type) (enc : TypeId × Value → H) :
    ReturnsInHanded {} Tryd.checked os 7 .any (fun w args => (Rows.indexCoversSpec.pre enc Tryd.prog Tryd.f7 [] false w args ∧ laidMetH Tryd.prog laidTab w) ∧ sizedMet enc Tryd.prog Tryd.f7 (OpenSpec.ofChange Rows.indexCoversSpec) false w args)
      (Rows.indexCoversSpec.post enc Tryd.prog Tryd.f7 false true false false) := by
  refine returnsInHanded_of_change_and (C := Tryd.checked) (X := fun w _ => laidMetH Tryd.prog laidTab w) (fun _ _ _ hh h => h.of_heap hh) own started (by kernel_rfl) Tryd.func7
    (ChangeSpec.witness_shaped (enc := enc) (C := Tryd.checked) (os := os) (X := fun w _ => laidMetH Tryd.prog laidTab w) false (World.doorLaid Tryd.prog 14 os) #[.int .i64 0, .int .i64 0] 8 rfl (World.shaped_of_RefB (by kernel_rfl) (by kernel_rfl)) (by kernel_rfl) (by kernel_rfl) (by kernel_rfl) (door_met os _)) ?_
  intro W base args ds gs before hval0 hW _ _ hL _
  have hval : ∀ (j : Nat) t v, Tryd.f7.params[j]? = some t → args[j]? = some v → Value.okWide Tryd.prog W .any base t v := hval0
  have hW' := hW
  obtain ⟨p, q, hA0, hV, rfl, hfz, hnd⟩ := hW
  have hA : DataW.TrodAll enc Tryd.prog W 0 (fun _ => true) true Tryd.f7.params.toList args.toList ds p := hA0
  rw [Tryd.params7] at hA hval
  obtain ⟨v0, vs0, d0, ds0, p0, q0, hargs, rfl, rfl, h0, r0⟩ := trodAll_cons hA
  obtain ⟨v1, vs1, d1, ds1, p1, q1, rfl, rfl, rfl, h1, r1⟩ := trodAll_cons r0
  obtain ⟨rfl, rfl, rfl⟩ := trodAll_nil r1
  obtain rfl : args = #[v0, v1] := by cases args; simp_all
  obtain ⟨rfl, rfl⟩ := trodVars_none hV
  obtain ⟨a0, rfl, rfl, rfl, w0⟩ := open_int Tryd.underlying3 (hval 0 3 v0 rfl rfl) h0
  obtain ⟨a1, rfl, rfl, rfl, w1⟩ := open_int Tryd.underlying3 (hval 1 3 v1 rfl rfl) h1
  clear hA0 hval0
  refine (IndexCovers_walk a0 a1 W (bounds64 w0).1 (bounds64 w0).2 (bounds64 w1).1 (bounds64 w1).2 (tab_of_laid hL)).mono fun e W' ⟨he, bel⟩ => ?_
  subst he
  exact ⟨_, rfl, _, _, _, [], _, [], hW', trodAll_mk1 (shut_bool Tryd.underlying4 _), (trodAll_cons_mk (shut_int Tryd.underlying3 w0) (trodAll_cons_mk (shut_int Tryd.underlying3 w1) trodAll_mk0)), rfl, bel.frame _, fun h => by cases h⟩

theorem IndexCovers_over : Rows.IndexCoversSaid :=
  OpenClaim.holds_of_wide 7 Tryd.f7 rfl rfl rfl rfl rfl rfl rfl ⟨rfl, rfl, rfl, rfl, rfl⟩ rfl rfl rfl rfl rfl (by kernel_rfl) Tryd.func7 (by kernel_rfl)
    (of_decide_eq_true (by kernel_rfl)) (by unfold Func.isWrapper; first | (rw [if_pos (by decide +kernel)]; kernel_rfl) | (rw [if_neg (by decide +kernel)]; exact ⟨rfl, rfl⟩))
    (fun os started H enc _ => IndexCovers_lifted os started H enc)

theorem IndexCovers_holds : Rows.IndexCoversCardSaid :=
  Claim7.holds_tied_plain_at .later [] [.data] true (Rows.indexCoversCard.stood.harness) false
    IndexCovers_over (fun _ h => by cases h) (by kernel_rfl) (fun _ h => by cases h) indexCovers_row_tie rfl ⟨rfl, rfl⟩ (by kernel_rfl) rfl
    (fun f fn hf hfn => by
      obtain rfl : f = 7 := Option.some.inj ((show Tryd.prog.funcNamed "phratry/phratrylaw02.IndexCovers" = some 7 by kernel_rfl).symm.trans hf) |>.symm
      obtain rfl : fn = Tryd.f7 := (Option.some.inj (Tryd.func7.symm.trans hfn)).symm
      exact ⟨by kernel_rfl, fun j t ht => by
        rw [Tryd.params7] at ht
        have hm : t ∈ [3, 3] := by simpa using Array.mem_of_getElem? ht
        have hall : ([3, 3].all fun u => !Tryd.prog.wantsStandIn u) = true := by kernel_rfl
        exact (show Tryd.prog.wantsStandIn t = false by simpa using List.all_eq_true.1 hall t hm)⟩)
    (by kernel_rfl)
#print axioms IndexCovers_holds

end Go.Proofs.YtkamcjmimfjnkaaDoor
