/- IndexFamily: for every number x and every number of leaves, the law answers true: each child's parent is the node, it is one level below, the other child is its sibling, and their leaves are the node's. No condition. -/
import Derived.Test.YtkamcjmimfjnkaaDoorIxFrame
import Derived.Test.YtkamcjmimfjnkaaDoorCards
import Derived.Test.YtkamcjmimfjnkaaDoorTie
namespace Go.Proofs.YtkamcjmimfjnkaaDoor
open Go.ChangeShapes Go.WideShapes Go.ChangeAt Go.RowKit

/-- All of a node and its children that the law asks. -/
theorem family {k m d : Nat} (hd : d ≤ 30) (hk : k + 1 ≤ d) (hm : m < 2 ^ (d - (k + 1))) :
    let X : Int := (nd (k + 1) m : Nat); let L : Int := ((2 ^ d : Nat) : Int); let l : Int := (nd k (2 * m) : Nat); let r : Int := (nd k (2 * m + 1) : Nat)
    lfV X = l ∧ rtV X = r ∧ lfB X = true ∧ rtB X = true ∧ parB l L = true ∧ parB r L = true ∧ parV l L = X ∧ parV r L = X ∧ sibV l L = r ∧ sibV r L = l ∧
    lvl X = ((k + 1 : Nat) : Int) ∧ lvl l = (k : Nat) ∧ lvl r = (k : Nat) ∧ spF X = spF l ∧ spT l + 1 = spF r ∧ spT r = spT X ∧ wi l X = true ∧ wi r X = true ∧ wi X l = false ∧ 0 ≤ spT l ∧ spT l < 2147483647 ∧ nd (k + 1) m < 2147483647 ∧ nd k (2 * m) < 2147483647 ∧ nd k (2 * m + 1) < 2147483647 := by
  intro X L l r
  have hmm : m * 2 + 1 < 2 ^ (d - k) := by
    obtain ⟨c, hc⟩ : ∃ c, d - k = c + 1 := ⟨d - k - 1, by omega⟩
    have : d - (k + 1) = c := by omega
    rw [this] at hm
    rw [hc, Nat.pow_succ]; omega
  have hl2 : 2 * m < 2 ^ (d - k) := by omega
  have hr2 : 2 * m + 1 < 2 ^ (d - k) := by omega
  have bX := nd_small hd hk hm
  have bl := nd_small hd (show k ≤ d by omega) hl2
  have br := nd_small hd (show k ≤ d by omega) hr2
  have lX : lvl X = ((k + 1 : Nat) : Int) := lvl_nd (by omega)
  have ll : lvl l = (k : Nat) := lvl_nd (by omega)
  have lr : lvl r = (k : Nat) := lvl_nd (by omega)
  have eX := nd_mul (k + 1) m
  have el := nd_mul k (2 * m)
  have er := nd_mul k (2 * m + 1)
  have hp := Nat.two_pow_pos k
  have p1 : 2 ^ (k + 1) = 2 * 2 ^ k := by rw [Nat.pow_succ]; omega
  have p2 : 2 ^ (k + 1 + 1) = 4 * 2 ^ k := by rw [Nat.pow_succ, p1]; omega
  have q1 : 2 ^ (k + 1 + 1) * m = 4 * (2 ^ k * m) := by rw [p2, Nat.mul_assoc]
  have q2 : 2 ^ (k + 1) * (2 * m) = 4 * (2 ^ k * m) := by rw [p1, Nat.mul_mul_mul_comm]
  have q3 : 2 ^ (k + 1) * (2 * m + 1) = 4 * (2 ^ k * m) + 2 * 2 ^ k := by rw [Nat.mul_add, q2, Nat.mul_one, p1]
  have hX0 : 0 < lvl X := by rw [lX]; omega
  have hXm : X ≠ 9223372036854775807 := by show ((nd (k + 1) m : Nat) : Int) ≠ _; omega
  have hhf : hf X = ((2 ^ k : Nat) : Int) := by unfold hf; rw [if_pos hX0, lX, Int.toNat_natCast, Nat.add_sub_cancel]
  have vl : lfV X = l := by
    unfold lfV; rw [if_pos hX0, hhf]
    show ((nd (k + 1) m : Nat) : Int) - _ = ((nd k (2 * m) : Nat) : Int)
    rw [eX, el, q1, q2, p1]
    generalize 2 ^ k * m = A; generalize 2 ^ k = p at *; omega
  have vr : rtV X = r := by
    unfold rtV; rw [if_pos ⟨hX0, hXm⟩, hhf]
    show ((nd (k + 1) m : Nat) : Int) + _ = ((nd k (2 * m + 1) : Nat) : Int)
    rw [eX, er, q1, q3, p1]
    generalize 2 ^ k * m = A; generalize 2 ^ k = p at *; omega
  have al : abv l = X := by show abv ((nd k (2 * m) : Nat) : Int) = _; rw [abv_nd (by omega)]; congr 2; omega
  have ar : abv r = X := by show abv ((nd k (2 * m + 1) : Nat) : Int) = _; rw [abv_nd (by omega)]; congr 2; omega
  have hlX : l < X := by
    show ((nd k (2 * m) : Nat) : Int) < ((nd (k + 1) m : Nat) : Int)
    rw [eX, el, q1, q2, p1]
    generalize 2 ^ k * m = A; generalize 2 ^ k = p at *; omega
  have hrX : ¬ r < X := by
    show ¬ ((nd k (2 * m + 1) : Nat) : Int) < ((nd (k + 1) m : Nat) : Int)
    rw [eX, er, q1, q3, p1]
    generalize 2 ^ k * m = A; generalize 2 ^ k = p at *; omega
  have pl : parB l L = true := (parB_nd hd).2 ⟨by omega, hl2⟩
  have pr : parB r L = true := (parB_nd hd).2 ⟨by omega, hr2⟩
  have s0 : ∀ n : Nat, n < 2147483647 → ¬ (((n : Nat) : Int) < 0 ∨ ((n : Nat) : Int) = 9223372036854775807) := fun n hn => by omega
  have sX := s0 _ bX
  have sl := s0 _ bl
  have sr := s0 _ br
  refine ⟨vl, vr, decide_eq_true hX0, decide_eq_true ⟨hX0, hXm⟩, pl, pr, ?_, ?_, ?_, ?_, lX, ll, lr, ?_, ?_, ?_, ?_, ?_, ?_, ?_, ?_, bX, bl, br⟩
  · simp [parV, pl, al]
  · simp [parV, pr, ar]
  · simp only [sibV, pl, if_true, sb, al, hlX, vr]
  · simp only [sibV, pr, if_true, sb, ar, hrX, if_false, vl]
  · unfold spF; rw [if_neg sX, if_neg sl, lX, ll, Int.toNat_natCast, Int.toNat_natCast]
    show (((nd (k + 1) m : Nat) : Int) - _) / 2 = (((nd k (2 * m) : Nat) : Int) - _) / 2
    rw [eX, el, q1, q2, p1]
    generalize 2 ^ k * m = A; generalize 2 ^ k = p at *; omega
  · unfold spF spT; rw [if_neg sl, if_neg sr, ll, lr, Int.toNat_natCast]
    show (((nd k (2 * m) : Nat) : Int) + _) / 2 + 1 = (((nd k (2 * m + 1) : Nat) : Int) - _) / 2
    rw [el, er, q2, q3]
    generalize 2 ^ k * m = A; generalize 2 ^ k = p at *; omega
  · unfold spT; rw [if_neg sX, if_neg sr, lX, lr, Int.toNat_natCast, Int.toNat_natCast]
    show (((nd k (2 * m + 1) : Nat) : Int) + _) / 2 = (((nd (k + 1) m : Nat) : Int) + _) / 2
    rw [eX, er, q1, q3, p1]
    generalize 2 ^ k * m = A; generalize 2 ^ k = p at *; omega
  · refine (wi_iff (by omega)).2 ?_
    rw [el, q1, q2, p2]
    generalize 2 ^ k * m = A; generalize 2 ^ k = p at *; omega
  · refine (wi_iff (by omega)).2 ?_
    rw [er, q1, q3, p2]
    generalize 2 ^ k * m = A; generalize 2 ^ k = p at *; omega
  · cases e : wi X l
    · rfl
    · have := (wi_iff (by omega)).1 e
      rw [eX, q1, q2, p1] at this
      generalize 2 ^ k * m = A at *; generalize 2 ^ k = p at *; omega
  · unfold spT; rw [if_neg sl, ll, Int.toNat_natCast]
    generalize 2 ^ k = p at *; omega
  · unfold spT; rw [if_neg sl, ll, Int.toNat_natCast]
    rw [q2] at el
    rw [q3] at er
    generalize 2 ^ k * m = A at *; generalize 2 ^ k = p at *; omega

theorem inn_of_wid {x L : Int} (h : 0 ≤ x) (h2 : ¬ wid L - 1 < x) : inn x L = true := by
  rw [inn_wid]; simp [h]; omega
theorem wid_bounds (L : Int) : 0 ≤ wid L ∧ wid L ≤ 2147483647 := by
  unfold wid
  cases e : isT L
  · simp
  · have := isT_bounds e; simp; omega

set_option maxRecDepth 100000 in
set_option maxHeartbeats 4000000 in
theorem IndexFamily_walk (x y : Int) (w : World) (x1 : -9223372036854775808 ≤ x) (x2 : x ≤ 9223372036854775807) (y1 : -9223372036854775808 ≤ y) (y2 : y ≤ 9223372036854775807) (hT : Tab w) :
    Calls Tryd.prog 5 #[.int .i64 x, .int .i64 y] w fun e w' => e = .returned (.bool true) ∧ Below w.heap.size w w' := by
  have K1 := left_any x w x2 hT
  have K2 := right_any x w x2 hT
  have K3 := width_any y w
  have hwb := wid_bounds y
  have hw0 : wrap64 (wid y - 1) = wid y - 1 := wrap64_id (by omega) (by omega)
  cases ha : lfB x
  · rw [ha] at K1
    clear ha K3 hw0 hwb
    generalize lfV x = V1 at *
    generalize rtV x = V2 at *
    generalize rtB x = B2 at *
    go_enter Tryd.func5, Tryd.ntmps5
    go_wp2_with fail
    refine (K1).mono ?_
    rintro e w ⟨rfl, rfl⟩
    go_wp2_with fail
    refine (K2).mono ?_
    rintro e w ⟨rfl, rfl⟩
    go_wp2_with fail
    refine (alive_any w hT).mono ?_
    rintro e w9 ⟨rfl, hb9⟩
    go_wp2
    go_ret
    exact ⟨rfl, hb9⟩
  · cases hb : rtB x
    · rw [ha] at K1
      rw [hb] at K2
      clear ha hb K3 hw0 hwb
      generalize lfV x = V1 at *
      generalize rtV x = V2 at *
      go_enter Tryd.func5, Tryd.ntmps5
      go_wp2_with fail
      refine (K1).mono ?_
      rintro e w ⟨rfl, rfl⟩
      go_wp2_with fail
      refine (K2).mono ?_
      rintro e w ⟨rfl, rfl⟩
      go_wp2_with fail
      refine (alive_any w hT).mono ?_
      rintro e w9 ⟨rfl, hb9⟩
      go_wp2
      go_ret
      exact ⟨rfl, hb9⟩
    · by_cases hx : wid y - 1 < x
      · rw [ha] at K1
        rw [hb] at K2
        clear ha hb
        generalize lfV x = V1 at *
        generalize rtV x = V2 at *
        generalize wid y = W at *
        go_enter Tryd.func5, Tryd.ntmps5
        go_wp2_with fail
        refine (K1).mono ?_
        rintro e w ⟨rfl, rfl⟩
        go_wp2_with fail
        refine (K2).mono ?_
        rintro e w ⟨rfl, rfl⟩
        go_wp2_with fail
        refine (K3).mono ?_
        rintro e w ⟨rfl, rfl⟩
        go_wp2_with fail
        refine (alive_any w hT).mono ?_
        rintro e w9 ⟨rfl, hb9⟩
        go_wp2
        go_ret
        exact ⟨rfl, hb9⟩
      · rcases lvl_cases x x2 with ⟨h, hl⟩ | ⟨m, rfl, hbb, hl⟩ | ⟨k, m, rfl, hbb, hl⟩
        · simp [lfB, hl] at ha
        · simp [lfB, hl] at ha
        · obtain ⟨d, k', m', hd, rfl, e, hk, hm, hlt⟩ := inn_open (inn_of_wid (by omega) hx)
          obtain ⟨rfl, rfl⟩ := nd_inj (Int.ofNat.inj e)
          obtain ⟨f1, f2, f3, f4, f5, f6, f7, f8, f9, f10, f11, f12, f13, f14, f15, f16, f17, f18, f19, f20, f21, f22, f23, f24⟩ := family hd hk hm
          have P1 := parent_any (nd k (2 * m) : Nat) ((2 ^ d : Nat) : Int) w hT
          have P2 := parent_any (nd k (2 * m + 1) : Nat) ((2 ^ d : Nat) : Int) w hT
          have S1 := sibling_any (nd k (2 * m) : Nat) ((2 ^ d : Nat) : Int) w hT
          have S2 := sibling_any (nd k (2 * m + 1) : Nat) ((2 ^ d : Nat) : Int) w hT
          have L1 := level_any (nd k (2 * m) : Nat) w (by omega) hT
          have L2 := level_any (nd k (2 * m + 1) : Nat) w (by omega) hT
          have L3 := level_any (nd (k + 1) m : Nat) w (by omega) hT
          have N1 := span_any (nd k (2 * m) : Nat) w (by omega) hT
          have N2 := span_any (nd k (2 * m + 1) : Nat) w (by omega) hT
          have N3 := span_any (nd (k + 1) m : Nat) w (by omega) hT
          have W1 := fun w hT => within_any (nd k (2 * m) : Nat) (nd (k + 1) m : Nat) w (by omega) (by omega) hT
          have W2 := fun w hT => within_any (nd k (2 * m + 1) : Nat) (nd (k + 1) m : Nat) w (by omega) (by omega) hT
          have W3 := fun w hT => within_any (nd (k + 1) m : Nat) (nd k (2 * m) : Nat) w (by omega) (by omega) hT
          rw [f1, f3] at K1
          rw [f2, f4] at K2
          rw [f7, f5] at P1
          rw [f8, f6] at P2
          rw [f9, f5] at S1
          rw [f10, f6] at S2
          rw [f12] at L1
          rw [f13] at L2
          rw [f11] at L3
          rw [f14, ← f16] at N3
          rw [← f15] at N2
          simp only [f17] at W1
          simp only [f18] at W2
          simp only [f19] at W3
          have hkb : (k : Int) ≤ 30 := by omega
          clear f1 f2 f3 f4 f5 f6 f7 f8 f9 f10 f11 f12 f13 f14 f15 f16 f17 f18 f19 ha hb hl e hk hm hd hbb hlt
          have hw1 : wrap64 (spT (nd k (2 * m) : Nat) + 1) = spT (nd k (2 * m) : Nat) + 1 := wrap64_id (by omega) (by omega)
          clear f20 f21 f22 f23 f24
          generalize spT (nd k (2 * m) : Nat) = T1 at *
          generalize spF (nd k (2 * m) : Nat) = F1 at *
          generalize spT (nd k (2 * m + 1) : Nat) = T2 at *
          generalize ((2 ^ d : Nat) : Int) = D at *
          generalize nd k (2 * m) = l at *
          generalize nd k (2 * m + 1) = r at *
          generalize nd (k + 1) m = X at *
          generalize wid D = W at *
          go_enter Tryd.func5, Tryd.ntmps5
          go_wp2_with fail
          refine (K1).mono ?_
          rintro e w ⟨rfl, rfl⟩
          go_wp2_with fail
          refine (K2).mono ?_
          rintro e w ⟨rfl, rfl⟩
          go_wp2_with fail
          refine (K3).mono ?_
          rintro e w ⟨rfl, rfl⟩
          go_wp2_with fail
          refine (P1).mono ?_
          rintro e w ⟨rfl, rfl⟩
          go_wp2_with fail
          refine (P2).mono ?_
          rintro e w ⟨rfl, rfl⟩
          go_wp2_with fail
          refine (S1).mono ?_
          rintro e w ⟨rfl, rfl⟩
          go_wp2_with fail
          refine (S2).mono ?_
          rintro e w ⟨rfl, rfl⟩
          go_wp2_with fail
          refine (L1).mono ?_
          rintro e w ⟨rfl, rfl⟩
          go_wp2_with fail
          refine (L3).mono ?_
          rintro e w ⟨rfl, rfl⟩
          go_wp2_with fail
          refine (L2).mono ?_
          rintro e w ⟨rfl, rfl⟩
          go_wp2_with fail
          refine (L1).mono ?_
          rintro e w ⟨rfl, rfl⟩
          go_wp2_with fail
          refine (N3).mono ?_
          rintro e w ⟨rfl, rfl⟩
          go_wp2_with fail
          refine (N1).mono ?_
          rintro e w ⟨rfl, rfl⟩
          go_wp2_with fail
          refine (N2).mono ?_
          rintro e w ⟨rfl, rfl⟩
          go_wp2_with fail
          refine (W1 w hT).mono ?_
          rintro e w1 ⟨rfl, c1⟩
          have b1 := c1
          go_wp2_with fail
          refine (W2 w1 (hT.bw b1)).mono ?_
          rintro e w2 ⟨rfl, c2⟩
          have b2 := bw_tr b1 c2
          go_wp2_with fail
          refine (W3 w2 (hT.bw b2)).mono ?_
          rintro e w3 ⟨rfl, c3⟩
          have b3 := bw_tr b2 c3
          go_wp2_with fail
          refine (alive_any w3 (hT.bw b3)).mono ?_
          rintro e w9 ⟨rfl, hb9⟩
          go_wp2
          go_ret
          exact ⟨rfl, bw_tr b3 hb9⟩

set_option maxRecDepth 100000 in
theorem IndexFamily_lifted (os : Os) (started : os.Started) (H : Type) (enc : TypeId × Value → H) :
    ReturnsInHanded {} Tryd.checked os 5 .any (fun w args => (Rows.indexFamilySpec.pre enc Tryd.prog Tryd.f5 [] false w args ∧ laidMetH Tryd.prog laidTab w) ∧ sizedMet enc Tryd.prog Tryd.f5 (OpenSpec.ofChange Rows.indexFamilySpec) false w args)
      (Rows.indexFamilySpec.post enc Tryd.prog Tryd.f5 false true false false) := by
  refine returnsInHanded_of_change_and (C := Tryd.checked) (X := fun w _ => laidMetH Tryd.prog laidTab w) (fun _ _ _ hh h => h.of_heap hh) own started (by kernel_rfl) Tryd.func5
    (ChangeSpec.witness_shaped (enc := enc) (C := Tryd.checked) (os := os) (X := fun w _ => laidMetH Tryd.prog laidTab w) false (World.doorLaid Tryd.prog 14 os) #[.int .i64 0, .int .i64 0] 8 rfl (World.shaped_of_RefB (by kernel_rfl) (by kernel_rfl)) (by kernel_rfl) (by kernel_rfl) (by kernel_rfl) (door_met os _)) ?_
  intro W base args ds gs before hval0 hW _ _ hL _
  have hval : ∀ (j : Nat) t v, Tryd.f5.params[j]? = some t → args[j]? = some v → Value.okWide Tryd.prog W .any base t v := hval0
  have hW' := hW
  obtain ⟨p, q, hA0, hV, rfl, hfz, hnd⟩ := hW
  have hA : DataW.TrodAll enc Tryd.prog W 0 (fun _ => true) true Tryd.f5.params.toList args.toList ds p := hA0
  rw [Tryd.params5] at hA hval
  obtain ⟨v0, vs0, d0, ds0, p0, q0, hargs, rfl, rfl, h0, r0⟩ := trodAll_cons hA
  obtain ⟨v1, vs1, d1, ds1, p1, q1, rfl, rfl, rfl, h1, r1⟩ := trodAll_cons r0
  obtain ⟨rfl, rfl, rfl⟩ := trodAll_nil r1
  obtain rfl : args = #[v0, v1] := by cases args; simp_all
  obtain ⟨rfl, rfl⟩ := trodVars_none hV
  obtain ⟨a0, rfl, rfl, rfl, w0⟩ := open_int Tryd.underlying3 (hval 0 3 v0 rfl rfl) h0
  obtain ⟨a1, rfl, rfl, rfl, w1⟩ := open_int Tryd.underlying3 (hval 1 3 v1 rfl rfl) h1
  clear hA0 hval0
  refine (IndexFamily_walk a0 a1 W (bounds64 w0).1 (bounds64 w0).2 (bounds64 w1).1 (bounds64 w1).2 (tab_of_laid hL)).mono fun e W' ⟨he, bel⟩ => ?_
  subst he
  exact ⟨_, rfl, _, _, _, [], _, [], hW', trodAll_mk1 (shut_bool Tryd.underlying4 _), (trodAll_cons_mk (shut_int Tryd.underlying3 w0) (trodAll_cons_mk (shut_int Tryd.underlying3 w1) trodAll_mk0)), rfl, bel.frame _, fun h => by cases h⟩

theorem IndexFamily_over : Rows.IndexFamilySaid :=
  OpenClaim.holds_of_wide 5 Tryd.f5 rfl rfl rfl rfl rfl rfl rfl ⟨rfl, rfl, rfl, rfl, rfl⟩ rfl rfl rfl rfl rfl (by kernel_rfl) Tryd.func5 (by kernel_rfl)
    (of_decide_eq_true (by kernel_rfl)) (by unfold Func.isWrapper; first | (rw [if_pos (by decide +kernel)]; kernel_rfl) | (rw [if_neg (by decide +kernel)]; exact ⟨rfl, rfl⟩))
    (fun os started H enc _ => IndexFamily_lifted os started H enc)

theorem IndexFamily_holds : Rows.IndexFamilyCardSaid :=
  Claim7.holds_tied_plain_at .later [] [.data] true (Rows.indexFamilyCard.stood.harness) false
    IndexFamily_over (fun _ h => by cases h) (by kernel_rfl) (fun _ h => by cases h) indexFamily_row_tie rfl ⟨rfl, rfl⟩ (by kernel_rfl) rfl
    (fun f fn hf hfn => by
      obtain rfl : f = 5 := Option.some.inj ((show Tryd.prog.funcNamed "phratry/phratrylaw02.IndexFamily" = some 5 by kernel_rfl).symm.trans hf) |>.symm
      obtain rfl : fn = Tryd.f5 := (Option.some.inj (Tryd.func5.symm.trans hfn)).symm
      exact ⟨by kernel_rfl, fun j t ht => by
        rw [Tryd.params5] at ht
        have hm : t ∈ [3, 3] := by simpa using Array.mem_of_getElem? ht
        have hall : ([3, 3].all fun u => !Tryd.prog.wantsStandIn u) = true := by kernel_rfl
        exact (show Tryd.prog.wantsStandIn t = false by simpa using List.all_eq_true.1 hall t hm)⟩)
    (by kernel_rfl)
#print axioms IndexFamily_holds

end Go.Proofs.YtkamcjmimfjnkaaDoor
