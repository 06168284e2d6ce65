/- ofDevices: may both trees be, and are all their members devices? -/
import Derived.Test.YtgmlkofogeoocaaGreatDoorZ22
import Derived.Shelf.Abstract
import Derived.Shelf.RegionOpen
import Derived.Sort.CutIn
namespace Go.Proofs.YtgmlkofogeoocaaGreatDoor
open Go.RowKit Go.Maps
attribute [local go_sem] Oper.semAt_some
def dvB (T1 T2 : List Nd) : Bool := mayB T1 && (mayB T2 && (uni (mems T1) (mems T2)).all devOk)
theorem ofdev_leave {w X : World} {D A : Nat} {rs : List Res} {x : Bool} (hE : Env w X (rsC (A + 2) #[.bool x] 4 :: rs)) (hs : ∀ r ∈ rs, SolidR r) (hK : X.heap[D]? = some (.deferred (some []))) (hD : w.heap.size ≤ D) {tmps : Array Value} (ht : tmps[4]?.getD undef = .pointer (some ⟨A + 2, 0, none⟩)) :
    LeavesInM Fence.wide 2 Tryz.prog Tryz.f27 tmps (fun e W' => e = .returned (.bool x) ∧ Below w.heap.size w W') [{ target := .collected D, args := #[] }] .returning X := by
  have hE2 : Env w (X.putObj D (.deferred none)) (rsC (A + 2) #[.bool x] 4 :: rs) := hE.putL (fun r hr => by
    rcases List.mem_cons.1 hr with rfl | hr
    · exact solidR_C _ _ _
    · exact hs r hr) hK rfl hD
  have hc := blk_c (i := 0) (show (X.putObj D (.deferred none)).heap[A + 2]? = some (.cells #[.bool x] 4 (0, 0)) from hE2.hd) rfl
  refine ⟨by simp, .inl ⟨_, _, rfl, run_takeDeferred hK, ?_⟩⟩
  generalize X.putObj D (.deferred none) = Y at *
  refine ⟨.bool x, ?_, rfl, hE2.bel⟩
  simp [results, Tryz.results27, go_sem, ht, hc]
set_option maxRecDepth 100000 in
set_option maxHeartbeats 2000000 in
theorem ofdev_ok {w : World} {v1 v2 : Value} {T1 T2 : List Nd} (h1 : Trd w v1 T1) (h2 : Trd w v2 T2) (hT : Tab w) (m1 : mayB T1 = true) (m2 : mayB T2 = true) :
    Calls Tryz.prog 27 #[.agg #[v1], .agg #[v2]] w fun e w' => e = .returned (.bool ((uni (mems T1) (mems T2)).all devOk)) ∧ Below w.heap.size w w' := by
  obtain ⟨a1, c1, hv1⟩ := h1.slice
  obtain ⟨a2, c2, hv2⟩ := h2.slice
  obtain ⟨N1, hN1⟩ : ∃ N, N = T1.length := ⟨_, rfl⟩
  obtain ⟨N2, hN2⟩ : ∃ N, N = T2.length := ⟨_, rfl⟩
  rw [← hN1] at hv1
  rw [← hN2] at hv2
  subst hv1 hv2
  obtain ⟨A, hA⟩ : ∃ A, A = w.heap.size := ⟨_, rfl⟩
  obtain ⟨w0, hw0⟩ : ∃ w0, w0 = ((w.alloc (.cells #[.slice a1 N1 c1] 30)).alloc (.cells #[.slice a2 N2 c2] 30)).alloc (.cells #[.bool false] 4) := ⟨_, rfl⟩
  have e0 : Env w w0 [rsC (A + 2) #[.bool false] 4, rsC (A + 1) #[.slice a2 N2 c2] 30, rsC A #[.slice a1 N1 c1] 30] := by
    have := (((Env.nil w).newC #[.slice a1 N1 c1] 30).newC #[.slice a2 N2 c2] 30).newC #[.bool false] 4
    simp only [World.size_alloc] at this
    rw [hw0, hA]
    exact this
  have KC1 := check_any (h1.bw e0.bel) (hT.bw e0.bel)
  rw [if_pos m1] at KC1
  have HK1 := hide KC1
  have HK2 : Hid (∀ W, Below w.heap.size w W → Calls Tryz.prog 41 #[.agg #[.slice a2 N2 c2]] W fun e w' => e = .returned (.int .i64 0) ∧ Below W.heap.size W w') := fun W hW => by
    have := check_any (h2.bw hW) (hT.bw hW)
    rw [if_pos m2] at this
    exact this
  have HW := hide (And.intro hw0 hA)
  have x0 := blk_c (i := 0) (show w0.heap[A]? = some (.cells #[.slice a1 N1 c1] 30 (0, 0)) from e0.nthR 2 rfl) rfl
  have HE0 := hide e0
  obtain ⟨RV, hRV⟩ : ∃ RV, RV = (uni (mems T1) (mems T2)).all devOk := ⟨_, rfl⟩
  rw [← hRV]
  have HF := hide (And.intro h1 (And.intro h2 (And.intro hT (And.intro m1 (And.intro m2 hRV)))))
  clear h1 h2 hT m1 m2 hN1 hN2 hA hw0 e0 KC1 hRV
  refine (callsIn_wide (n := 2)).1 (callsIn_of_wp_marks Tryz.func27 rfl trivial ?_ rfl)
  simp only [Tryz.ntmps27, List.size_toArray, List.length_cons, List.length_nil, Nat.reduceAdd, Nat.reduceSub, Array.replicate_succ, Array.replicate_zero, List.push_toArray, List.append_toArray, List.nil_append, List.cons_append]
  refine wpIn_wide.2 ?_
  go_upto_region 1 with fail
  rw [← (unhide HW).2, show A + 1 + 1 = A + 2 from rfl]
  rw [← (unhide HW).1]
  clear HW
  go_wp2_with fail
  refine (unhide HK1).mono ?_
  rintro e w1 ⟨rfl, b1⟩
  have e1 := (unhide HE0).new b1
  have y1 := blk_c (i := 0) (show w1.heap[A + 1]? = some (.cells #[.slice a2 N2 c2] 30 (0, 0)) from e1.nthR 1 rfl) rfl
  have HK21 := hide (unhide HK2 w1 e1.bel)
  have HE1 := hide e1
  clear HK1 HK2 HE0 b1 e1 x0
  go_wp2_with fail
  refine (unhide HK21).mono ?_
  rintro e w2 ⟨rfl, b2⟩
  have e2 := (unhide HE1).new b2
  have z0 := blk_c (i := 0) (show w2.heap[A]? = some (.cells #[.slice a1 N1 c1] 30 (0, 0)) from e2.nthR 2 rfl) rfl
  have z1 := blk_c (i := 0) (show w2.heap[A + 1]? = some (.cells #[.slice a2 N2 c2] 30 (0, 0)) from e2.nthR 1 rfl) rfl
  have HE2 := hide e2
  clear HK21 HE1 b2 e2 y1
  go_wp2_with fail
  refine (roMembers_any _ _ _).mono ?_
  rintro e w3 ⟨rfl, hw3⟩
  have e3 := ((unhide HE2).newC #[.slice a1 N1 c1] 30).newC #[.slice a2 N2 c2] 30
  simp only [World.size_alloc] at e3
  rw [← hw3] at e3
  obtain ⟨tb, htb⟩ : ∃ tb, tb = w2.heap.size := ⟨_, rfl⟩
  rw [← htb] at e3
  obtain ⟨h1, h2, hT, m1, m2, hRV⟩ := unhide HF
  have hA1 : w.heap.size ≤ w2.heap.size := (unhide HE2).bel.size
  have hs3 : w3.heap.size = tb + 2 := by rw [hw3, htb]; simp
  obtain ⟨OV, hOV⟩ : ∃ OV, OV = uni (mems T1) (mems T2) := ⟨_, rfl⟩
  have HSQ : Hid (SeqR Tryz.prog 45 #[.pointer (some ⟨tb, 0, none⟩), .pointer (some ⟨tb + 1, 0, none⟩)] OV.length (encR OV) (fun _ => True) w3) := by
    rw [hOV]
    exact seqM_any tb (tb + 1) (h1.bw e3.bel) (h2.bw e3.bel) (hT.bw e3.bel) m1 m2 (e3.nthR 1 rfl) (e3.nthR 0 rfl)
  have HZ : Hid (RV = OV.all devOk) := by rw [hRV, hOV]; exact rfl
  obtain ⟨RS, hRS⟩ : ∃ RS : Bool → List Res, RS = fun x => [rsC (A + 2) #[.bool x] 4, rsC (A + 1) #[.slice a2 N2 c2] 30, rsC A #[.slice a1 N1 c1] 30, rsC tb #[.slice a1 N1 c1] 30, rsC (tb + 1) #[.slice a2 N2 c2] 30] := ⟨_, rfl⟩
  have hsol : ∀ qv ql x, ∀ r ∈ rsI qv ql :: RS x, SolidR r := fun qv ql x r hr => by
    rw [hRS] at hr
    simp only [List.mem_cons, List.not_mem_nil, or_false] at hr
    rcases hr with rfl | rfl | rfl | rfl | rfl | rfl
    · exact solidR_I _ _
    all_goals exact solidR_C _ _ _
  have eI : Env w w3 (rsI (.slice none 0 0) [] :: RS false) := by
    rw [hRS]
    exact ((((e3.upR 1 rfl).upR 4 rfl).upR 4 rfl).upR 4 rfl).nilI
  have hbD : ∀ D, w3.heap.size ≤ D → w.heap.size ≤ D := fun D hD => by omega
  have HI0 := hide eI
  clear HE2 e3 eI z0 z1 hOV h1 h2 hT m1 m2 HF hRV
  go_wp2_with fail
  rw [← hw3, ← htb]
  have HS3 : Hid (A + 2 < w3.heap.size) := by have := lt_of_blk (show w3.heap[A + 2]? = some _ from by have := unhide HI0; rw [hRS] at this; exact this.nthR 1 rfl); exact this
  clear hw3 htb hs3 hA1
  refine range_ownR (unhide HSQ) rfl (enters_of Tryz.func45 (by kernel_rfl) rfl) (fun _ => rfl)
    (fun k qv ql X => Env w X (rsI qv ql :: RS false) ∧ ∀ m, m < k → devOk (nthR OV m) = true)
    (fun k X => devOk (nthR OV k) = false ∧ Env w X (RS false))
    (fun k qv ql A B hi hb => ⟨hi.1.new hb, hi.2⟩)
    (fun k qv ql A B hi hb hq => ⟨hi.1.swapI hb hq, hi.2⟩)
    (fun k qv ql A hi => hi.1.hd)
    (fun k qv ql A b o o' hb hi hA ho => ⟨hi.1.putL (hsol _ _ _) hA ho (hbD b hb), hi.2⟩)
    (fun k A b o o' hb hi hA ho => ⟨hi.1, hi.2.putL (fun r hr => hsol (.slice none 0 0) [] _ r (List.mem_cons_of_mem _ hr)) hA ho (hbD b hb)⟩)
    (fun A b o o' hb hi hA ho => trivial)
    ⟨unhide HI0, fun m hm => by omega⟩
    (fun k => { tmps := #[.agg #[.slice a1 N1 c1], .agg #[.slice a2 N2 c2], .pointer (some ⟨A, 0, none⟩), .pointer (some ⟨A + 1, 0, none⟩), .pointer (some ⟨A + 2, 0, none⟩), .int .i64 (nthR OV k), undef, undef, .agg #[.slice a1 N1 c1], .int .i64 0, .bool false, .bool false, .agg #[.slice a2 N2 c2], .int .i64 0, .bool false, .bool false, .agg #[.slice a1 N1 c1], .agg #[.slice a2 N2 c2], .func (.func 45) #[] #[.pointer (some ⟨tb, 0, none⟩), .pointer (some ⟨tb + 1, 0, none⟩)], .int .i64 (nthR OV k), undef, undef, undef, undef, undef, undef, undef], defers := [] })
    ?assign ?body ?done ?stop
  case assign =>
    intro l k X K hK
    unfold encR
    gi_wp2
    exact hK
  case body =>
    rintro D l k qv ql X r hD rfl hk ⟨hE, h0⟩ - hl hDd
    have EL := hE.addL (hsol _ _ _) hDd hl rfl rfl (hbD _ hD) (by have := hbD _ hD; omega)
    obtain ⟨Y, hY⟩ : ∃ Y, Y = nthR OV k := ⟨_, rfl⟩
    rw [← hY]
    have KW := hide (roUser_any Y X)
    have HB := hide (And.intro EL (And.intro h0 (And.intro hl (And.intro hDd (And.intro hY hD)))))
    clear hE h0 hl hDd EL hY hk
    gi_wp2
    refine ⟨trivial, rfl, ?_⟩
    refine (CallsIn.inRound _ (callsIn_wide.2 (unhide KW))).mono ?_
    rintro e X1 ⟨rfl, hX1⟩
    subst hX1
    obtain ⟨EL, h0, hl, hDd, hY, hD⟩ := unhide HB
    cases hw : devOk Y
    · have HE1 : usrE Y = 1 := by unfold usrE; rw [hw]; rfl
      rw [HE1]
      have E2 : Env w (X1.setCell ⟨A + 2, 0, none⟩ (.bool false)) (rsL D (D + 1) (.deferred (some [])) (.loop r) :: rsI qv ql :: RS false) := by
        rw [hRS] at EL ⊢
        exact ((((EL.upR 2 rfl).pokeC (i := 0) (.bool false)).upR 1 rfl).upR 2 rfl |> fun q => (q.upR 1 rfl))
      have b2 : X1.heap[A + 2]? = some (.cells #[.bool false] 4 (0, 0)) := by rw [hRS] at EL; exact EL.nthR 2 rfl
      have cc := blk_c (i := 0) b2 rfl
      have cf := froz_b' (i := 0) b2
      have L2 : (X1.setCell ⟨A + 2, 0, none⟩ (.bool false)).heap[D]? = some (.deferred (some [])) ∧ (X1.setCell ⟨A + 2, 0, none⟩ (.bool false)).heap[D + 1]? = some (.loop r) := E2.hd
      have HP : Hid (∀ a, postR (fun k qv ql X => Env w X (rsI qv ql :: RS false) ∧ ∀ m, m < k → devOk (nthR OV m) = true) (fun k X => devOk (nthR OV k) = false ∧ Env w X (RS false)) (fun _ => True) D (D + 1) k qv ql X1 .ret a (X1.setCell ⟨A + 2, 0, none⟩ (.bool false))) := fun a =>
        ⟨L2.2.trans hl.symm, L2.1.trans hDd.symm, by rw [← hY]; exact hw, E2.drop.drop⟩
      clear EL h0 hl hDd hY hw HB KW E2 L2 b2 HE1
      gi_wp2
      exact unhide HP _
    · have HE1 : usrE Y = 0 := by unfold usrE; rw [hw]; rfl
      rw [HE1]
      have HP : Hid (∀ a, postR (fun k qv ql X => Env w X (rsI qv ql :: RS false) ∧ ∀ m, m < k → devOk (nthR OV m) = true) (fun k X => devOk (nthR OV k) = false ∧ Env w X (RS false)) (fun _ => True) D (D + 1) k qv ql X1 .normal a X1) := fun a =>
        ⟨rfl, rfl, trivial, EL.drop, fun m hm => by
          by_cases q : m = k
          · subst q; rw [← hY]; exact hw
          · exact h0 m (by omega)⟩
      clear EL h0 hl hDd hY hw HB KW HE1
      gi_wp2
      exact unhide HP _
  case done =>
    rintro D qv ql X hD ⟨hE, h0⟩ hK
    have hR : RV = true := by
      rw [unhide HZ, List.all_eq_true]
      intro x hx
      obtain ⟨m, hm⟩ := List.mem_iff_getElem?.1 hx
      have := h0 m (List.getElem?_eq_some_iff.1 hm).1
      rw [nthR, getD_ofR hm] at this
      exact this
    have E1 : Env w X (RS false) := hE.drop
    have E2 : Env w (X.setCell ⟨A + 2, 0, none⟩ (.bool true)) (RS true) := by
      rw [hRS] at E1 ⊢
      exact E1.pokeC (i := 0) (.bool true)
    have b2 : X.heap[A + 2]? = some (.cells #[.bool false] 4 (0, 0)) := by rw [hRS] at E1; exact E1.hd
    have cc := blk_c (i := 0) b2 rfl
    have cf := froz_b' (i := 0) b2
    have hKs : (X.setCell ⟨A + 2, 0, none⟩ (.bool true)).heap[D]? = some (.deferred (some [])) := by
      rw [Below.heap_setCell _ _ _ _ (by simp only; have := unhide HS3; omega)]; exact hK
    have HL : Hid (∀ (tmps : Array Value), tmps[4]?.getD undef = .pointer (some ⟨A + 2, 0, none⟩) → LeavesInM Fence.wide 2 Tryz.prog Tryz.f27 tmps (fun e W' => e = .returned (.bool RV) ∧ Below w.heap.size w W') [{ target := .collected D, args := #[] }] .returning (X.setCell ⟨A + 2, 0, none⟩ (.bool true))) := fun tmps ht => by
      rw [hR]
      rw [hRS] at E2
      exact ofdev_leave E2 (fun r hr => hsol (.slice none 0 0) [] false r (List.mem_cons_of_mem _ (by rw [hRS]; exact List.mem_cons_of_mem _ hr))) hKs (hbD D hD) ht
    clear hE h0 hK hR E1 E2 b2 hKs
    go_wp2_with fail
    exact unhide HL _ rfl
  case stop =>
    rintro D k X hD hk ⟨h1, hE⟩ hK
    have hR : RV = false := by
      rw [unhide HZ]
      have hat : OV[k]? = some (nthR OV k) := by rw [nthR, List.getD_eq_getElem?_getD, List.getElem?_eq_getElem hk]; rfl
      cases q : OV.all devOk
      · rfl
      · have := List.all_eq_true.1 q _ (List.mem_of_getElem? hat)
        rw [h1] at this; cases this
    refine (wpIn_wide (n := 2)).2 ?_
    have HL : Hid (∀ (tmps : Array Value), tmps[4]?.getD undef = .pointer (some ⟨A + 2, 0, none⟩) → LeavesInM Fence.wide 2 Tryz.prog Tryz.f27 tmps (fun e W' => e = .returned (.bool RV) ∧ Below w.heap.size w W') [{ target := .collected D, args := #[] }] .returning X) := fun tmps ht => by
      rw [hR]
      rw [hRS] at hE
      exact ofdev_leave hE (fun r hr => hsol (.slice none 0 0) [] false r (List.mem_cons_of_mem _ (by rw [hRS]; exact List.mem_cons_of_mem _ hr))) hK (hbD D hD) ht
    clear hE h1 hR
    go_wp2_with fail
    exact unhide HL _ rfl
end Go.Proofs.YtgmlkofogeoocaaGreatDoor
