/- Texts joined: LgLv LgLw LgLawRow. -/
import Derived.Test.YthlbdajnkdkocaaDoorZ21
import Derived.Test.YthlbdajnkdkocaaDoorZ20
import Derived.Test.YthlbdajnkdkocaaDoorZ02
import Derived.Test.YthlbdajnkdkocaaDoorZ18
import Derived.Deep.QuietTactic
import Derived.BigQuiet
/- What is so of whoever does something at all: leaf, alive of layer 14. -/
namespace Go.Proofs.YthlbdajnkdkocaaDoor
open Go.RowKit Go.Maps
def lfT (m : Int) : List Nd := [⟨1, m, 0, []⟩]
set_option maxRecDepth 100000 in
set_option maxHeartbeats 2000000 in
theorem leaf_any (w : World) (m : Int) :
    Calls Tryd.prog 27 #[.int .i64 m] w fun e w' => ∃ g, e = .returned (.agg #[.slice (some ⟨g, 0, none⟩) 1 1]) ∧ Trd w' (.slice (some ⟨g, 0, none⟩) 1 1) (lfT m) ∧ Below w.heap.size w w' := by
  obtain ⟨WZ, hWZ⟩ : ∃ z, z = (w.alloc (.cells #[.slice (some ⟨w.heap.size + 1, 0, none⟩) 1 1] 29)).alloc (.cells #[.int .i64 1, .int .i64 m, .int .i64 0, .slice none 0 0] 76) := ⟨_, rfl⟩
  have e1 : (w.alloc (.cells #[.slice (some ⟨w.heap.size + 1, 0, none⟩) 1 1] 29)).heap.size = w.heap.size + 1 := by simp
  have k1 : WZ.heap[w.heap.size]? = some (.cells #[.slice (some ⟨w.heap.size + 1, 0, none⟩) 1 1] 29 (0, 0)) := by
    have h1 := heap_alloc_new w (.cells #[.slice (some ⟨w.heap.size + 1, 0, none⟩) 1 1] 29)
    rw [hWZ, Below.heap_alloc _ _ _ (by simp)]; exact h1
  have kz : WZ.heap[w.heap.size + 1]? = some (.cells #[.int .i64 1, .int .i64 m, .int .i64 0, .slice none 0 0] 76 (0, 0)) := by
    have h2 := heap_alloc_new (w.alloc (.cells #[.slice (some ⟨w.heap.size + 1, 0, none⟩) 1 1] 29)) (.cells #[.int .i64 1, .int .i64 m, .int .i64 0, .slice none 0 0] 76)
    rw [e1] at h2
    rw [hWZ]; exact h2
  have z0 : WZ.cell? ⟨w.heap.size, 0, none⟩ = some (.slice (some ⟨w.heap.size + 1, 0, none⟩) 1 1) := blk_c k1 rfl
  have HR : Hid (Trd WZ (.slice (some ⟨w.heap.size + 1, 0, none⟩) 1 1) (lfT m) ∧ Below w.heap.size w WZ) := by
    refine ⟨⟨by simp [lfT], by simp [lfT], Or.inr ⟨w.heap.size + 1, 0, 1, rfl, lt_of_blk kz, fun i n hi => ?_⟩⟩, by rw [hWZ]; exact bw_tr (bwA _ _) (bwA _ _)⟩
    match i, hi with
    | 0, hi =>
      have hn : n = ⟨1, m, 0, []⟩ := by simpa [lfT] using hi.symm
      subst hn
      exact ⟨.slice none 0 0, ⟨blk_c kz rfl, blk_c kz rfl, blk_c kz rfl, blk_c kz rfl⟩, Or.inl ⟨rfl, none, 0, rfl, fun _ => rfl⟩⟩
    | (i + 1), hi => simp [lfT] at hi
  have HZ := hide hWZ
  clear k1 hWZ kz e1
  go_enter Tryd.func27, Tryd.ntmps27
  go_wp2_with fail
  rw [← unhide HZ]
  exact bodyPost_ret (v := .agg #[.slice (some ⟨w.heap.size + 1, 0, none⟩) 1 1]) (by simp [results, Tryd.results27, go_sem, z0]) rfl ⟨w.heap.size + 1, rfl, (unhide HR).1, (unhide HR).2⟩
def lvC (ep m : Int) : Cm := ⟨3, ep, 0, 0, 0, false, [], [], [], [], 0, 0, lfT m, 0, 0⟩
def lvX (g : Nat) : Cv := ⟨.slice none 0 0, .slice none 0 0, .slice none 0 0, .slice none 0 0, .slice (some ⟨g, 0, none⟩) 1 1⟩
theorem lvC_r {w : World} {g : Nat} {ep m : Int} (h : Trd w (.slice (some ⟨g, 0, none⟩) 1 1) (lfT m)) : CmR w (lvC ep m) (lvX g) :=
  ⟨RI.nil _ _, Or.inl ⟨rfl, none, 0, rfl, fun _ => rfl⟩, by simp [lvC], RI.nil _ _, RI.nil _ _, h⟩
theorem lvC_sm (ep m : Int) : SmC (lvC ep m) := ⟨by simp [lvC], by simp [lvC], by simp [lvC], by simp [lvC], by simp [lvC, lfT], by simp [lvC, lfT], by simp [lvC], by simp [lvC], by simp [lvC]⟩
def lvL1 : List Lg := [(3, [lvC 0 1])]
def lvL2 : List Lg := [(3, [lvC 0 1, lvC 1 2])]
theorem lvL1_sm : SmL lvL1 := ⟨by simp [lvL1], fun p hp => by simp [lvL1] at hp; subst hp; exact ⟨by simp, fun c hc => by simp at hc; subst hc; exact lvC_sm _ _⟩⟩
theorem lvL2_sm : SmL lvL2 := ⟨by simp [lvL2], fun p hp => by simp [lvL2] at hp; subst hp; exact ⟨by simp, fun c hc => by simp at hc; rcases hc with rfl | rfl <;> exact lvC_sm _ _⟩⟩
theorem lv_e1 : appE [] (lvC 0 1) = 0 ∧ appL [] (lvC 0 1) = lvL1 := ⟨by kernel_rfl, by kernel_rfl⟩
theorem lv_e2 : appE lvL1 (lvC 1 2) = 0 ∧ appL lvL1 (lvC 1 2) = lvL2 := ⟨by kernel_rfl, by kernel_rfl⟩
theorem lv_e3 : appE lvL2 (lvC 1 2) = 10 ∧ lenL lvL2 3 = 2 := ⟨by kernel_rfl, by kernel_rfl⟩
theorem lv_s : srt [2, 1] = [1, 2] := by
  simp [srt, List.mergeSort, List.MergeSort.Internal.splitInTwo]
theorem lv_t : tchL lvL2 3 1 = Lib.compact (srt [2, 1]) := by kernel_rfl
theorem lv_e4 : tchL lvL2 3 1 = [1, 2] := by rw [lv_t, lv_s]; kernel_rfl
theorem lv_e5 : chkB [((0 : Int), ([] : List Cm))] = false := by kernel_rfl
set_option maxRecDepth 100000 in
set_option maxHeartbeats 4000000 in
theorem alive14_any {w : World} (hT : Tab w) :
    Calls Tryd.prog 10 #[] w fun e w' => e = .returned (.bool true) ∧ Below w.heap.size w w' := by
  have KL : Hid (∀ W m, Calls Tryd.prog 27 #[.int .i64 m] W fun e w' => ∃ g, e = .returned (.agg #[.slice (some ⟨g, 0, none⟩) 1 1]) ∧ Hid (Trd w' (.slice (some ⟨g, 0, none⟩) 1 1) (lfT m)) ∧ Below W.heap.size W w') := fun W m => leaf_any W m
  have KA1 : Hid (∀ W g, Below w.heap.size w W → Trd W (.slice (some ⟨g, 0, none⟩) 1 1) (lfT 1) → Calls Tryd.prog 9 #[.slice none 0 0, .agg #[.int .i64 3, .int .i64 0, .int .i64 0, .int .i64 0, .int .i64 0, .bool false, .slice none 0 0, .slice none 0 0, .slice none 0 0, .slice none 0 0, .int .i64 0, .int .i64 0, .slice (some ⟨g, 0, none⟩) 1 1, .int .i64 0, .int .i64 0]] W fun e w' => ∃ a c, e = .returned (.tuple #[.slice a 1 c, .int .i64 0]) ∧ Hid (Lgs w' (.slice a 1 c) lvL1) ∧ Below W.heap.size W w') := fun W g hW ht => by
    have h0 : Lgs W (.slice none 0 0) [] := ⟨by simp, none, 0, rfl, Or.inl rfl⟩
    have K := lgAppend_any h0 ⟨by simp, by simp⟩ (lvC_r (ep := 0) ht) (lvC_sm 0 1) (hT.bw hW)
    refine Calls.mono K ?_
    rintro e w' ⟨v', xs', rfl, ho, hb⟩
    rw [lv_e1.2] at ho
    rw [lv_e1.1]
    obtain ⟨a, c, hv⟩ := own_slice ho.row
    subst hv
    exact ⟨a, c, rfl, ho.lgs lvL1_sm, hb⟩
  have KA2 : Hid (∀ W g a c, Below w.heap.size w W → Lgs W (.slice a 1 c) lvL1 → Trd W (.slice (some ⟨g, 0, none⟩) 1 1) (lfT 2) → Calls Tryd.prog 9 #[.slice a 1 c, .agg #[.int .i64 3, .int .i64 1, .int .i64 0, .int .i64 0, .int .i64 0, .bool false, .slice none 0 0, .slice none 0 0, .slice none 0 0, .slice none 0 0, .int .i64 0, .int .i64 0, .slice (some ⟨g, 0, none⟩) 1 1, .int .i64 0, .int .i64 0]] W fun e w' => ∃ a c, e = .returned (.tuple #[.slice a 1 c, .int .i64 0]) ∧ Hid (Lgs w' (.slice a 1 c) lvL2) ∧ Below W.heap.size W w') := fun W g a c hW h0 ht => by
    have K := lgAppend_any h0 lvL1_sm (lvC_r (ep := 1) ht) (lvC_sm 1 2) (hT.bw hW)
    refine Calls.mono K ?_
    rintro e w' ⟨v', xs', rfl, ho, hb⟩
    rw [lv_e2.2] at ho
    rw [lv_e2.1]
    obtain ⟨a, c, hv⟩ := own_slice ho.row
    subst hv
    exact ⟨a, c, rfl, ho.lgs lvL2_sm, hb⟩
  have KA3 : Hid (∀ W g a c, Below w.heap.size w W → Lgs W (.slice a 1 c) lvL2 → Trd W (.slice (some ⟨g, 0, none⟩) 1 1) (lfT 2) → Calls Tryd.prog 9 #[.slice a 1 c, .agg #[.int .i64 3, .int .i64 1, .int .i64 0, .int .i64 0, .int .i64 0, .bool false, .slice none 0 0, .slice none 0 0, .slice none 0 0, .slice none 0 0, .int .i64 0, .int .i64 0, .slice (some ⟨g, 0, none⟩) 1 1, .int .i64 0, .int .i64 0]] W fun e w' => ∃ a n c, e = .returned (.tuple #[.slice a n c, .int .i64 10]) ∧ Below W.heap.size W w') := fun W g a c hW h0 ht => by
    have K := lgAppend_any h0 lvL2_sm (lvC_r (ep := 1) ht) (lvC_sm 1 2) (hT.bw hW)
    refine Calls.mono K ?_
    rintro e w' ⟨v', xs', rfl, ho, hb⟩
    rw [lv_e3.1]
    obtain ⟨a, c, hv⟩ := own_slice ho.row
    subst hv
    exact ⟨a, _, c, rfl, hb⟩
  have KT : Hid (∀ W a c, Below w.heap.size w W → Lgs W (.slice a 1 c) lvL2 → Calls Tryd.prog 17 #[.slice a 1 c, .int .i64 3, .int .i64 1] W fun e w' => ∃ a n c, e = .returned (.tuple #[.slice a n c, .bool true]) ∧ Hid (Nums w' (.slice a n c) [1, 2]) ∧ Below W.heap.size W w') := fun W a c hW h0 => by
    refine Calls.mono (lgTouched_any h0 lvL2_sm (hT.bw hW) 3 1) ?_
    rintro e w' ⟨v', rfl, hn, hb⟩
    rw [lv_e4] at hn
    rw [lv_e3.2]
    obtain ⟨a, c, hv⟩ := nums_slice hn
    subst hv
    exact ⟨a, _, c, rfl, hn, hb⟩
  have KN : Hid (∀ W a c, Below w.heap.size w W → Lgs W (.slice a 1 c) lvL2 → Calls Tryd.prog 14 #[.slice a 1 c, .int .i64 3] W fun e w' => e = .returned (.int .i64 2) ∧ Below W.heap.size W w') := fun W a c hW h0 => by
    refine Calls.mono (lgLen_any h0 lvL2_sm (hT.bw hW) 3) ?_
    rintro e w' ⟨rfl, hb⟩
    rw [lv_e3.2]
    exact ⟨rfl, hb⟩
  have KS : Hid (∀ W a n c, Nums W (.slice a n c) [1, 2] → Calls Tryd.prog 28 #[.slice a n c, .slice (some ⟨W.heap.size, 0, none⟩) 2 2] (W.alloc (.cells #[.int .i64 1, .int .i64 2] 3)) fun e w' => e = .returned (.bool true) ∧ Below W.heap.size W w') := fun W a n c h0 => by
    have hk := heap_alloc_new W (.cells #[.int .i64 1, .int .i64 2] 3)
    have h2 : Nums (W.alloc (.cells #[.int .i64 1, .int .i64 2] 3)) (.slice (some ⟨W.heap.size, 0, none⟩) 2 2) [1, 2] := by
      refine Or.inr ⟨W.heap.size, 0, 2, rfl, by simp, by unfold maxLen; omega, fun j z hj => ?_⟩
      match j, hj with
      | 0, hj => cases hj; exact blk_c hk rfl
      | 1, hj => cases hj; exact blk_c hk rfl
      | (j + 2), hj => simp at hj
    refine Calls.mono (same_any _ _ _ _ _ (h0.bw (bwA _ _)) h2) ?_
    rintro e w' ⟨rfl, hb⟩
    exact ⟨rfl, bw_tr (bwA _ _) hb⟩
  have KC : Hid (∀ W, Below w.heap.size w W → Calls Tryd.prog 13 #[.slice (some ⟨W.heap.size, 0, none⟩) 1 1] (W.alloc (.cells #[.int .i64 0, .slice none 0 0] 46)) fun e w' => e = .returned (.int .i64 1) ∧ Below W.heap.size W w') := fun W hW => by
    have hk := heap_alloc_new W (.cells #[.int .i64 0, .slice none 0 0] 46)
    have h2 : Lgs (W.alloc (.cells #[.int .i64 0, .slice none 0 0] 46)) (.slice (some ⟨W.heap.size, 0, none⟩) 1 1) [((0 : Int), ([] : List Cm))] := by
      refine ⟨by simp, _, 1, rfl, Or.inr ⟨W.heap.size, 0, rfl, fun i p hi => ?_⟩⟩
      match i, hi with
      | 0, hi =>
        have hp : p = (0, []) := by simpa using hi.symm
        subst hp
        exact ⟨.slice none 0 0, Cms.none _, blk_c hk rfl, blk_c hk rfl⟩
      | (i + 1), hi => simp at hi
    refine Calls.mono (lgCheck_any h2 (hT.bw (bw_tr hW (bwA _ _)))) ?_
    rintro e w' ⟨rfl, hb⟩
    rw [lv_e5]
    exact ⟨rfl, bw_tr (bwA _ _) hb⟩
  clear hT
  go_enter Tryd.func10, Tryd.ntmps10
  go_wp2_with fail
  refine (unhide KL w 1).mono ?_
  rintro e w1 ⟨g1, rfl, t1, b1⟩
  have B1 := hide b1
  clear b1
  go_wp2_with fail
  refine (unhide KA1 w1 g1 (unhide B1) (unhide t1)).mono ?_
  rintro e w2 ⟨a1, c1, rfl, l1, b2⟩
  have B2 := hide (bw_tr (unhide B1) b2)
  clear b2 t1 B1 KA1
  go_wp2_with fail
  refine (unhide KL w2 2).mono ?_
  rintro e w3 ⟨g2, rfl, t2, b3⟩
  have B3 := hide (bw_tr (unhide B2) b3)
  have l1' := hide ((unhide l1).bw b3)
  clear b3 B2 l1
  go_wp2_with fail
  refine (unhide KA2 w3 g2 a1 c1 (unhide B3) (unhide l1') (unhide t2)).mono ?_
  rintro e w4 ⟨a2, c2, rfl, l2, b4⟩
  have B4 := hide (bw_tr (unhide B3) b4)
  clear b4 B3 l1' t2 KA2
  go_wp2_with fail
  refine (unhide KL w4 2).mono ?_
  rintro e w5 ⟨g3, rfl, t3, b5⟩
  have B5 := hide (bw_tr (unhide B4) b5)
  have l2' := hide ((unhide l2).bw b5)
  clear b5 B4 l2 KL
  go_wp2_with fail
  refine (unhide KA3 w5 g3 a2 c2 (unhide B5) (unhide l2') (unhide t3)).mono ?_
  rintro e w6 ⟨a3, n3, c3, rfl, b6⟩
  have B6 := hide (bw_tr (unhide B5) b6)
  have l3 := hide ((unhide l2').bw b6)
  clear b6 B5 l2' t3 KA3
  go_wp2_with fail
  refine (unhide KT w6 a2 c2 (unhide B6) (unhide l3)).mono ?_
  rintro e w7 ⟨a4, n4, c4, rfl, hn, b7⟩
  have B7 := hide (bw_tr (unhide B6) b7)
  have l4 := hide ((unhide l3).bw b7)
  clear b7 B6 l3 KT
  go_wp2_with fail
  refine (unhide KN w7 a2 c2 (unhide B7) (unhide l4)).mono ?_
  rintro e w8 ⟨rfl, b8⟩
  have B8 := hide (bw_tr (unhide B7) b8)
  have hn8 := hide ((unhide hn).bw b8)
  clear b8 B7 l4 KN hn
  go_wp2_with fail
  refine (unhide KS w8 a4 n4 c4 (unhide hn8)).mono ?_
  rintro e w9 ⟨rfl, b9⟩
  have B9 := hide (bw_tr (unhide B8) b9)
  clear b9 B8 hn8 KS
  go_wp2_with fail
  refine (unhide KC w9 (unhide B9)).mono ?_
  rintro e w10 ⟨rfl, b10⟩
  have B10 := hide (bw_tr (unhide B9) b10)
  clear b10 B9 KC
  go_wp2_with fail
  go_ret
  exact ⟨rfl, unhide B10⟩
end Go.Proofs.YthlbdajnkdkocaaDoor

/- What the laws of layer 14 share: sizes, Beyond, what Get and Last answer, spelt out. -/
namespace Go.Proofs.YthlbdajnkdkocaaDoor
open Go.RowKit Go.Maps
theorem mem_sum {α : Type} {f : α → Nat} : ∀ {l : List α} {a : α}, a ∈ l → f a ≤ (l.map f).foldr (· + ·) 0
  | [], _, h => by cases h
  | b :: r, a, h => by
    rcases List.mem_cons.1 h with rfl | h
    · simp
    · have := mem_sum (f := f) h; simp only [List.map_cons, List.foldr_cons]; omega
theorem mem_usum {T : List Nd} {n : Nd} (h : n ∈ T) : n.un.length ≤ usum T := by
  unfold usum
  induction T with
  | nil => cases h
  | cons m r ih =>
    rcases List.mem_cons.1 h with rfl | h
    · simp
    · have := ih h; simp only [List.map_cons, List.sum_cons]; omega
theorem smC_of {w : World} {c : Cm} {x : Cv} (h : CmR w c x) (hb : cmN c ≤ 1048576) : SmC c := by
  unfold cmN at hb
  exact ⟨by omega, by omega, by omega, by omega, by omega, fun n hn => by have := mem_usum hn; omega, h.adds.fit, h.seals.fit, h.joins.fit⟩
theorem smL_of {w : World} {v : Value} {l : List Lg} (h : Lgs w v l) (hb : l.length + lsN l ≤ 1048576) : SmL l := by
  refine ⟨by omega, fun p hp => ?_⟩
  obtain ⟨a, cap, rfl⟩ := h.slice
  obtain ⟨i, hi⟩ := List.getElem?_of_mem hp
  obtain ⟨gb, o, _, cv, hcv, _, _⟩ := h.get hi
  obtain ⟨a2, c2, rfl⟩ := hcv.slice
  have h1 : lgN p ≤ lsN l := mem_sum (f := lgN) hp
  unfold lgN at h1
  refine ⟨by omega, fun c hc => ?_⟩
  obtain ⟨j, hj⟩ := List.getElem?_of_mem hc
  obtain ⟨_, _, _, x, hx, _⟩ := hcv.get hj
  have h2 : cmN c ≤ csN p.2 := mem_sum (f := cmN) hc
  exact smC_of hx (by omega)
set_option maxHeartbeats 400000 in
theorem beyond14 (b : Nat) (n : Nat) (c : Nat) (w : World) (hn : n ≤ 9007199254740992) (h0 : w.cell? ⟨b, 0, none⟩ = some (.int .i64 n)) :
    Calls Tryd.prog 6 #[.slice (some ⟨b, 0, none⟩) 1 c] w fun e w' => e = .returned (.bool (decide (262144 < n))) ∧ w' = w := by
  by_cases hb : 262144 < n
  · rw [decide_eq_true hb]
    go_enter Tryd.func6, Tryd.ntmps6
    go_wp2
    refine wp_loop_rounds 1 ?_
    rw [rounds_succ]
    go_wp2
    go_ret
    exact ⟨rfl, rfl⟩
  · rw [decide_eq_false hb]
    go_enter Tryd.func6, Tryd.ntmps6
    go_wp2
    refine wp_loop_rounds 2 ?_
    rw [rounds_succ]
    go_wp2
    rw [rounds_succ]
    go_wp2
    go_ret
    exact ⟨rfl, rfl⟩
theorem getX_any {w : World} {v : Value} {l : List Lg} (h : Lgs w v l) (hs : SmL l) (hT : Tab w) (g e : Int) :
    Calls Tryd.prog 15 #[v, .int .i64 g, .int .i64 e] w fun r w' => ∃ (g0 g1 g2 g3 g4 : Int) (g5 : Bool) (a1 : Option Addr) (LA k1 : Nat) (a2 : Option Addr) (LR k2 : Nat) (a3 : Option Addr) (LQ k3 : Nat) (a4 : Option Addr) (LJ k4 : Nat) (g10 g11 : Int) (a5 : Option Addr) (LN k5 : Nat) (g13 g14 : Int), r = .returned (.tuple #[.agg #[.int .i64 g0, .int .i64 g1, .int .i64 g2, .int .i64 g3, .int .i64 g4, .bool g5, .slice a1 LA k1, .slice a2 LR k2, .slice a3 LQ k3, .slice a4 LJ k4, .int .i64 g10, .int .i64 g11, .slice a5 LN k5, .int .i64 g13, .int .i64 g14], .bool (getL l g e).isSome]) ∧ Hid ((getL l g e).isSome = true → ∃ c x, getL l g e = some c ∧ CmR w' c x ∧ .agg #[.int .i64 g0, .int .i64 g1, .int .i64 g2, .int .i64 g3, .int .i64 g4, .bool g5, .slice a1 LA k1, .slice a2 LR k2, .slice a3 LQ k3, .slice a4 LJ k4, .int .i64 g10, .int .i64 g11, .slice a5 LN k5, .int .i64 g13, .int .i64 g14] = cmV c x ∧ c.gr = g0 ∧ c.ep = g1) ∧ Below w.heap.size w w' := by
  refine (lgGet_any h hs hT g e).mono ?_
  rintro r w' ⟨x, us, rfl, ho, hb⟩
  have hsm : ∀ c, getL l g e = some c → SmC c := fun c hc => by
    by_cases he : 0 ≤ e
    · rw [getL_cms l g he] at hc
      exact (cmsL_sm hs g).c c (List.mem_of_getElem? hc)
    · rw [getL_neg l g (by omega)] at hc; cases hc
  generalize getL l g e = ot at *
  obtain ⟨c, hc⟩ : ∃ c, c = ot.getD cm00 := ⟨_, rfl⟩
  rw [← hc] at ho ⊢
  obtain ⟨a1, k1, e1⟩ := own_slice ho.adds
  obtain ⟨a2, k2, e2⟩ := own_slice ho.rem
  obtain ⟨a3, k3, e3⟩ := own_slice ho.seals
  obtain ⟨a4, k4, e4⟩ := own_slice ho.joins
  obtain ⟨a5, k5, e5⟩ := own_slice ho.next.row
  refine ⟨c.gr, c.ep, c.dev, c.mem, c.ke, c.ext, a1, c.adds.length, k1, a2, c.rem.length, k2, a3, c.seals.length, k3, a4, c.joins.length, k4, c.own, c.ent, a5, c.next.length, k5, c.face, c.card, ?_, fun hq => ?_, hb⟩
  · rw [← e1, ← e2, ← e3, ← e4, ← e5]; rfl
  · cases ot with
    | none => cases hq
    | some d =>
      have hd : c = d := hc
      subst hd
      exact ⟨c, x, rfl, OC.rd ho (hsm c rfl), by rw [← e1, ← e2, ← e3, ← e4, ← e5]; rfl, rfl, rfl⟩
theorem lastX_any {w : World} {v : Value} {l : List Lg} (h : Lgs w v l) (hs : SmL l) (hT : Tab w) (g : Int) :
    Calls Tryd.prog 11 #[v, .int .i64 g] w fun r w' => ∃ (g0 g1 g2 g3 g4 : Int) (g5 : Bool) (a1 : Option Addr) (LA k1 : Nat) (a2 : Option Addr) (LR k2 : Nat) (a3 : Option Addr) (LQ k3 : Nat) (a4 : Option Addr) (LJ k4 : Nat) (g10 g11 : Int) (a5 : Option Addr) (LN k5 : Nat) (g13 g14 : Int), r = .returned (.tuple #[.agg #[.int .i64 g0, .int .i64 g1, .int .i64 g2, .int .i64 g3, .int .i64 g4, .bool g5, .slice a1 LA k1, .slice a2 LR k2, .slice a3 LQ k3, .slice a4 LJ k4, .int .i64 g10, .int .i64 g11, .slice a5 LN k5, .int .i64 g13, .int .i64 g14], .bool (getL l g ((lenL l g : Int) - 1)).isSome]) ∧ Hid ((getL l g ((lenL l g : Int) - 1)).isSome = true → ∃ c x, getL l g ((lenL l g : Int) - 1) = some c ∧ CmR w' c x ∧ .agg #[.int .i64 g0, .int .i64 g1, .int .i64 g2, .int .i64 g3, .int .i64 g4, .bool g5, .slice a1 LA k1, .slice a2 LR k2, .slice a3 LQ k3, .slice a4 LJ k4, .int .i64 g10, .int .i64 g11, .slice a5 LN k5, .int .i64 g13, .int .i64 g14] = cmV c x ∧ c.gr = g0 ∧ c.ep = g1) ∧ Below w.heap.size w w' := by
  refine (lgLast_any h hs hT g).mono ?_
  generalize hee : (lenL l g : Int) - 1 = e
  rintro r w' ⟨x, us, rfl, ho, hb⟩
  have hsm : ∀ c, getL l g e = some c → SmC c := fun c hc => by
    by_cases he : 0 ≤ e
    · rw [getL_cms l g he] at hc
      exact (cmsL_sm hs g).c c (List.mem_of_getElem? hc)
    · rw [getL_neg l g (by omega)] at hc; cases hc
  generalize getL l g e = ot at *
  obtain ⟨c, hc⟩ : ∃ c, c = ot.getD cm00 := ⟨_, rfl⟩
  rw [← hc] at ho ⊢
  obtain ⟨a1, k1, e1⟩ := own_slice ho.adds
  obtain ⟨a2, k2, e2⟩ := own_slice ho.rem
  obtain ⟨a3, k3, e3⟩ := own_slice ho.seals
  obtain ⟨a4, k4, e4⟩ := own_slice ho.joins
  obtain ⟨a5, k5, e5⟩ := own_slice ho.next.row
  refine ⟨c.gr, c.ep, c.dev, c.mem, c.ke, c.ext, a1, c.adds.length, k1, a2, c.rem.length, k2, a3, c.seals.length, k3, a4, c.joins.length, k4, c.own, c.ent, a5, c.next.length, k5, c.face, c.card, ?_, fun hq => ?_, hb⟩
  · rw [← e1, ← e2, ← e3, ← e4, ← e5]; rfl
  · cases ot with
    | none => cases hq
    | some d =>
      have hd : c = d := hc
      subst hd
      exact ⟨c, x, rfl, OC.rd ho (hsm c rfl), by rw [← e1, ← e2, ← e3, ← e4, ← e5]; rfl, rfl, rfl⟩
end Go.Proofs.YthlbdajnkdkocaaDoor

/- LedgerRow, the walk. -/
namespace Go.Proofs.YthlbdajnkdkocaaDoor
open Go.RowKit Go.Maps
set_option maxRecDepth 100000 in
set_option maxHeartbeats 8000000 in
theorem LedgerRow_walk (W : World) (v : Value) (l : List Lg) (h : Lgs W v l) (hT : Tab W) (g : Int) :
    Calls Tryd.prog 5 #[v, .int .i64 g] W fun e w' => e = .returned (.bool true) ∧ Below W.heap.size W w' := by
  have KZ := hide (lsize_any h)
  have KN : Hid (SmL l → ∀ w, Below W.heap.size W w → Calls Tryd.prog 14 #[v, .int .i64 g] w fun e w' => e = .returned (.int .i64 (lenL l g : Nat)) ∧ Below w.heap.size w w') := fun hs w hw => lgLen_any (h.bw hw) hs (hT.bw hw) g
  have KG : Hid (SmL l → ∀ w, Below W.heap.size W w → ∀ i : Nat, i < lenL l g → Calls Tryd.prog 15 #[v, .int .i64 g, .int .i64 (i : Int)] w fun r w' => ∃ (g2 g3 g4 : Int) (g5 : Bool) (a1 : Option Addr) (LA k1 : Nat) (a2 : Option Addr) (LR k2 : Nat) (a3 : Option Addr) (LQ k3 : Nat) (a4 : Option Addr) (LJ k4 : Nat) (g10 g11 : Int) (a5 : Option Addr) (LN k5 : Nat) (g13 g14 : Int), r = .returned (.tuple #[.agg #[.int .i64 g, .int .i64 (i : Int), .int .i64 g2, .int .i64 g3, .int .i64 g4, .bool g5, .slice a1 LA k1, .slice a2 LR k2, .slice a3 LQ k3, .slice a4 LJ k4, .int .i64 g10, .int .i64 g11, .slice a5 LN k5, .int .i64 g13, .int .i64 g14], .bool true]) ∧ Below w.heap.size w w') := fun hs w hw i hi => by
    refine Calls.mono (getX_any (h.bw hw) hs (hT.bw hw) g (i : Int)) ?_
    rintro r w' ⟨g0, g1, g2, g3, g4, g5, a1, LA, k1, a2, LR, k2, a3, LQ, k3, a4, LJ, k4, g10, g11, a5, LN, k5, g13, g14, rfl, hh, hb⟩
    obtain ⟨c, hc⟩ : ∃ c, (cmsL l g)[i]? = some c := ⟨_, List.getElem?_eq_getElem (by rw [cmsL_len]; exact hi)⟩
    have hg : getL l g (i : Int) = some c := by rw [getL_cms l g (by omega), Int.toNat_natCast]; exact hc
    rw [hg] at hh ⊢
    obtain ⟨c', x, e1, _, _, e2, e3⟩ := unhide hh rfl
    cases e1
    obtain ⟨_, q1, q2, _, _⟩ := cmsL_may hc
    subst e2 e3
    rw [q1, q2]
    exact ⟨g2, g3, g4, g5, a1, LA, k1, a2, LR, k2, a3, LQ, k3, a4, LJ, k4, g10, g11, a5, LN, k5, g13, g14, rfl, hb⟩
  have KO : Hid (SmL l → ∀ w, Below W.heap.size W w → ∀ e : Int, getL l g e = none → Calls Tryd.prog 15 #[v, .int .i64 g, .int .i64 e] w fun r w' => ∃ (g0 g1 g2 g3 g4 : Int) (g5 : Bool) (a1 : Option Addr) (LA k1 : Nat) (a2 : Option Addr) (LR k2 : Nat) (a3 : Option Addr) (LQ k3 : Nat) (a4 : Option Addr) (LJ k4 : Nat) (g10 g11 : Int) (a5 : Option Addr) (LN k5 : Nat) (g13 g14 : Int), r = .returned (.tuple #[.agg #[.int .i64 g0, .int .i64 g1, .int .i64 g2, .int .i64 g3, .int .i64 g4, .bool g5, .slice a1 LA k1, .slice a2 LR k2, .slice a3 LQ k3, .slice a4 LJ k4, .int .i64 g10, .int .i64 g11, .slice a5 LN k5, .int .i64 g13, .int .i64 g14], .bool false]) ∧ Below w.heap.size w w') := fun hs w hw e he => by
    refine Calls.mono (getX_any (h.bw hw) hs (hT.bw hw) g e) ?_
    rintro r w' ⟨g0, g1, g2, g3, g4, g5, a1, LA, k1, a2, LR, k2, a3, LQ, k3, a4, LJ, k4, g10, g11, a5, LN, k5, g13, g14, rfl, hh, hb⟩
    rw [he]
    exact ⟨g0, g1, g2, g3, g4, g5, a1, LA, k1, a2, LR, k2, a3, LQ, k3, a4, LJ, k4, g10, g11, a5, LN, k5, g13, g14, rfl, hb⟩
  have KLs : Hid (SmL l → ∀ w, Below W.heap.size W w → Calls Tryd.prog 11 #[v, .int .i64 g] w fun r w' => ∃ (g0 g1 g2 g3 g4 : Int) (g5 : Bool) (a1 : Option Addr) (LA k1 : Nat) (a2 : Option Addr) (LR k2 : Nat) (a3 : Option Addr) (LQ k3 : Nat) (a4 : Option Addr) (LJ k4 : Nat) (g10 g11 : Int) (a5 : Option Addr) (LN k5 : Nat) (g13 g14 : Int), r = .returned (.tuple #[.agg #[.int .i64 g0, .int .i64 g1, .int .i64 g2, .int .i64 g3, .int .i64 g4, .bool g5, .slice a1 LA k1, .slice a2 LR k2, .slice a3 LQ k3, .slice a4 LJ k4, .int .i64 g10, .int .i64 g11, .slice a5 LN k5, .int .i64 g13, .int .i64 g14], .bool (decide (0 < lenL l g))]) ∧ Below w.heap.size w w') := fun hs w hw => by
    refine Calls.mono (lastX_any (h.bw hw) hs (hT.bw hw) g) ?_
    rintro r w' ⟨g0, g1, g2, g3, g4, g5, a1, LA, k1, a2, LR, k2, a3, LQ, k3, a4, LJ, k4, g10, g11, a5, LN, k5, g13, g14, rfl, hh, hb⟩
    have e : (getL l g ((lenL l g : Int) - 1)).isSome = decide (0 < lenL l g) := by
      rcases Nat.eq_zero_or_pos (lenL l g) with q | q
      · rw [getL_neg l g (by omega), decide_eq_false (by omega)]; rfl
      · rw [getL_cms l g (by omega), decide_eq_true q]
        have : ((lenL l g : Int) - 1).toNat < (cmsL l g).length := by rw [cmsL_len]; omega
        rw [List.getElem?_eq_getElem this]; rfl
    rw [e]
    exact ⟨g0, g1, g2, g3, g4, g5, a1, LA, k1, a2, LR, k2, a3, LQ, k3, a4, LJ, k4, g10, g11, a5, LN, k5, g13, g14, rfl, hb⟩
  have KT : Hid (SmL l → ∀ w, Below W.heap.size W w → ∀ i : Nat, i < lenL l g → Calls Tryd.prog 17 #[v, .int .i64 g, .int .i64 (i : Int)] w fun r w' => ∃ (tb : Nat) (tf n c : Nat), r = .returned (.tuple #[.slice (some ⟨tb, tf, none⟩) n c, .bool true]) ∧ 0 < n ∧ n ≤ 1073741824 ∧ Hid (∀ j, 0 < j → j < n → ∃ y z : Int, z < y ∧ ∀ X, Below w'.heap.size w' X → X.cell? ⟨tb, tf + j, none⟩ = some (.int .i64 y) ∧ X.cell? ⟨tb, tf + (j - 1), none⟩ = some (.int .i64 z)) ∧ Below w.heap.size w w') := fun hs w hw i hi => by
    refine Calls.mono (lgTouched_any (h.bw hw) hs (hT.bw hw) g (i : Int)) ?_
    rintro r w' ⟨v', rfl, hn, hb⟩
    obtain ⟨c, hc⟩ : ∃ c, (cmsL l g)[i]? = some c := ⟨_, List.getElem?_eq_getElem (by rw [cmsL_len]; exact hi)⟩
    have hne := tchL_ne hc
    have hup : (tchL l g (i : Int)).Pairwise (· < ·) := tchL_up
    have hlb := tchL_len hc
    rw [decide_eq_true (show 0 ≤ (i : Int) ∧ (i : Int) < (lenL l g : Int) by omega)]
    generalize tchL l g (i : Int) = TT at *
    have hpos : 0 < TT.length := List.length_pos_iff.2 hne
    rcases hn with ⟨q, _⟩ | ⟨tb, tf, cp, hv, _, _, hcell⟩
    · exact absurd q hne
    · subst hv
      refine ⟨tb, tf, TT.length, cp, rfl, hpos, by omega, fun j j0 jn => ?_, hb⟩
      have j1 : j - 1 < TT.length := by omega
      refine ⟨TT[j], TT[j - 1], (List.pairwise_iff_getElem.1 hup) (j - 1) j j1 jn (by omega), fun X hX => ?_⟩
      have c1 := hcell j TT[j] (List.getElem?_eq_getElem jn)
      have c2 := hcell (j - 1) TT[j - 1] (List.getElem?_eq_getElem j1)
      exact ⟨by rw [hX.cell (lt_of_cell c1)]; exact c1, by rw [hX.cell (lt_of_cell c2)]; exact c2⟩
  have KA : Hid (∀ w, Below W.heap.size W w → Calls Tryd.prog 10 #[] w fun e w' => e = .returned (.bool true) ∧ Below w.heap.size w w') := fun w hw => alive14_any (hT.bw hw)
  have HSm : Hid (l.length + lsN l ≤ 262144 → SmL l) := fun q => smL_of h (by omega)
  have HLb : Hid (SmL l → lenL l g ≤ 1073741824) := fun hs => by rw [← cmsL_len]; exact (cmsL_sm hs g).n
  have HGn : Hid (getL l g (-1) = none ∧ getL l g (lenL l g : Int) = none) := ⟨getL_neg l g (by omega), by rw [getL_cms l g (by omega), Int.toNat_natCast]; exact List.getElem?_eq_none (by rw [cmsL_len]; omega)⟩
  obtain ⟨a, cap, hv⟩ := h.slice
  obtain ⟨NL, hNL⟩ : ∃ z, z = l.length := ⟨_, rfl⟩
  rw [← hNL] at hv
  subst hv
  obtain ⟨L, hL⟩ : ∃ z, z = lenL l g := ⟨_, rfl⟩
  rw [← hL] at KN KG KLs KT HLb HGn
  clear h hT hNL hL
  go_enter Tryd.func5, Tryd.ntmps5
  go_wp2_with fail
  refine (unhide KZ).mono ?_
  rintro e w1 ⟨n, rfl, hn, hnl, b1⟩
  have hk := heap_alloc_new w1 (.cells #[.int .i64 (n : Int)] 3)
  have KB := hide (beyond14 w1.heap.size n 1 (w1.alloc (.cells #[.int .i64 (n : Int)] 3)) hn (blk_c hk rfl))
  have B1 := hide (And.intro hnl (bw_tr b1 (bwA w1 (.cells #[.int .i64 (n : Int)] 3))))
  clear hk hnl b1 KZ
  go_wp2_with fail
  refine (unhide KB).mono ?_
  rintro e w2 ⟨rfl, hw2⟩
  have B2 : Hid (Below W.heap.size W w2) := by unfold Hid; rw [hw2]; exact (unhide B1).2
  have HN2 := hide (unhide B1).1
  clear hw2 B1 KB
  by_cases hbig : 262144 < n
  · rw [decide_eq_true hbig]
    go_wp2_with fail
    go_ret
    exact ⟨rfl, unhide B2⟩
  · rw [decide_eq_false hbig]
    have hs := hide (unhide HSm (by have := unhide HN2 (by omega); omega))
    have hLb := unhide HLb (unhide hs)
    have hLI : (L : Int) ≤ 1073741824 := by omega
    have KN1 := hide (unhide KN (unhide hs) w2 (unhide B2))
    clear HSm HLb HN2 hbig hn hLb KN
    go_wp2_with fail
    refine (unhide KN1).mono ?_
    rintro e w3 ⟨rfl, b3⟩
    have B3 := hide (bw_tr (unhide B2) b3)
    clear b3 B2 KN1
    go_wp2_with fail
    go_loopw [6] (fun iv wr => ∃ i : Nat, iv = .int .i64 (i : Int) ∧ i ≤ L ∧ Hid (Below W.heap.size W wr)) (fun iv _ => (L - intOf iv).toNat)
    case atStart => exact ⟨0, rfl, Nat.zero_le _, B3⟩
    case round =>
      clear B3
      obtain ⟨i, rfl, hi, B4⟩ := hrel
      by_cases hlt : i < L
      · have hiI : (i : Int) < (L : Int) := by omega
        have h0 : (0 : Int) ≤ (i : Int) := by omega
        have K1 := hide (unhide KG (unhide hs) wr (unhide B4) i hlt)
        go_wp2_with fail
        refine (unhide K1).mono ?_
        rintro r w5 ⟨g2, g3, g4, g5, a1, LA, k1, a2, LR, k2, a3, LQ, k3, a4, LJ, k4, g10, g11, a5, LN, k5, g13, g14, rfl, b5⟩
        obtain ⟨w6, hw6⟩ : ∃ z, z = w5.alloc (.cells #[.int .i64 g, .int .i64 (i : Int), .int .i64 g2, .int .i64 g3, .int .i64 g4, .bool g5, .slice a1 LA k1, .slice a2 LR k2, .slice a3 LQ k3, .slice a4 LJ k4, .int .i64 g10, .int .i64 g11, .slice a5 LN k5, .int .i64 g13, .int .i64 g14] 31) := ⟨_, rfl⟩
        have kk : w6.heap[w5.heap.size]? = some (.cells #[.int .i64 g, .int .i64 (i : Int), .int .i64 g2, .int .i64 g3, .int .i64 g4, .bool g5, .slice a1 LA k1, .slice a2 LR k2, .slice a3 LQ k3, .slice a4 LJ k4, .int .i64 g10, .int .i64 g11, .slice a5 LN k5, .int .i64 g13, .int .i64 g14] 31 (0, 0)) := by rw [hw6]; exact heap_alloc_new _ _
        have B6 := hide (bw_tr (bw_tr (unhide B4) b5) (by rw [hw6]; exact bwA w5 _ : Below w5.heap.size w5 w6))
        have K2 := hide (unhide KT (unhide hs) w6 (unhide B6) i hlt)
        have HK6 := hide kk
        have HW := hide hw6
        clear kk hw6 b5 K1 B4
        go_upto_region 8 with fail
        rw [← unhide HW]
        clear HW
        go_wp2_with fail
        refine (unhide K2).mono ?_
        rintro r w7 ⟨tb, tf, m, tc, rfl, hm0, hmb, HJ, b7⟩
        have k7 := kept_b (unhide HK6) (lt_of_blk (unhide HK6)) b7
        have s0 : w7.cell? ⟨w5.heap.size, 0, none⟩ = some (.int .i64 g) := blk_c k7 rfl
        have s1 : w7.cell? ⟨w5.heap.size, 1, none⟩ = some (.int .i64 (i : Int)) := blk_c k7 rfl
        have B7 := hide (bw_tr (unhide B6) b7)
        have mI : (m : Int) ≤ 1073741824 := by omega
        have m0 : ¬ (m : Int) = 0 := by omega
        have m1 : ((m : Int) == 0) = false := by simp; omega
        have m2 : ¬ m = 0 := by omega
        have m3 : (m == 0) = false := by simp; omega
        clear k7 b7 K2 HK6 B6
        go_wp2_with fail
        clear s0 s1
        go_loopw [11] (fun jv wq => ∃ j : Nat, jv = .int .i64 (j : Int) ∧ 0 < j ∧ j ≤ m ∧ Hid (Below w7.heap.size w7 wq)) (fun jv _ => (m - intOf jv).toNat)
        case atStart => exact ⟨1, rfl, by omega, by omega, Below.refl _ _⟩
        case round =>
          rename World => wq
          obtain ⟨j, rfl, hj0, hj, BQ⟩ := hrel
          by_cases hjm : j < m
          · obtain ⟨y, z, hyz, hcy⟩ := unhide HJ j hj0 hjm
            obtain ⟨c1, c2⟩ := hcy wq (unhide BQ)
            obtain ⟨j', hj'⟩ : ∃ q, q = j - 1 := ⟨_, rfl⟩
            rw [← hj'] at c2
            have v1 : (j : Int) - 1 = (j' : Int) := by omega
            have v2 : (j' : Int) < (m : Int) := by omega
            have v3 : (0 : Int) ≤ (j' : Int) := by omega
            have v4 : (j : Int) < (m : Int) := by omega
            have v5 : (0 : Int) ≤ (j : Int) := by omega
            have v6 : IntKind.i64.wrap (j' : Int) = (j' : Int) := by rw [IntKind.wrap_i64]; omega
            have v7 : decide (y ≤ z) = false := decide_eq_false (by omega)
            have v8 : ¬ y ≤ z := by omega
            clear hcy hyz hj'
            go_wp2_with fail
            go_quiet (fail)
            go_wp2_with fail
            go_roundw
            case rel => exact ⟨j + 1, by go_num, by omega, by omega, below_drewN (unhide BQ) _⟩
            case measure => simp only [intOf]; omega
          · obtain rfl : j = m := by omega
            have B8 := hide (bw_tr (unhide B7) (unhide BQ))
            clear BQ B7 HJ
            go_wp2_with fail
            go_roundw
            case rel => exact ⟨i + 1, by go_num, by omega, B8⟩
            case measure => simp only [intOf]; omega
      · obtain rfl : i = L := by omega
        have K1 := hide (unhide KO (unhide hs) wr (unhide B4) (-1) (unhide HGn).1)
        clear KG KT
        go_wp2_with fail
        refine (unhide K1).mono ?_
        rintro r w5 ⟨g0, g1, g2, g3, g4, g5, a1, LA, k1, a2, LR, k2, a3, LQ, k3, a4, LJ, k4, g10, g11, a5, LN, k5, g13, g14, rfl, b5⟩
        obtain ⟨w6, hw6⟩ : ∃ z, z = w5.alloc (.cells #[.int .i64 g0, .int .i64 g1, .int .i64 g2, .int .i64 g3, .int .i64 g4, .bool g5, .slice a1 LA k1, .slice a2 LR k2, .slice a3 LQ k3, .slice a4 LJ k4, .int .i64 g10, .int .i64 g11, .slice a5 LN k5, .int .i64 g13, .int .i64 g14] 31) := ⟨_, rfl⟩
        have B6 := hide (bw_tr (bw_tr (unhide B4) b5) (by rw [hw6]; exact bwA w5 _ : Below w5.heap.size w5 w6))
        have K2 := hide (unhide KO (unhide hs) w6 (unhide B6) (i : Int) (unhide HGn).2)
        have HW := hide hw6
        clear hw6 b5 K1 B4
        go_upto_region 17 with fail
        rw [← unhide HW]
        clear HW 
        go_wp2_with fail
        refine (unhide K2).mono ?_
        rintro r w7 ⟨g0, g1, g2, g3, g4, g5, a1, LA, k1, a2, LR, k2, a3, LQ, k3, a4, LJ, k4, g10, g11, a5, LN, k5, g13, g14, rfl, b7⟩
        obtain ⟨w8, hw8⟩ : ∃ z, z = w7.alloc (.cells #[.int .i64 g0, .int .i64 g1, .int .i64 g2, .int .i64 g3, .int .i64 g4, .bool g5, .slice a1 LA k1, .slice a2 LR k2, .slice a3 LQ k3, .slice a4 LJ k4, .int .i64 g10, .int .i64 g11, .slice a5 LN k5, .int .i64 g13, .int .i64 g14] 31) := ⟨_, rfl⟩
        have B8 := hide (bw_tr (bw_tr (unhide B6) b7) (by rw [hw8]; exact bwA w7 _ : Below w7.heap.size w7 w8))
        have K3 := hide (unhide KLs (unhide hs) w8 (unhide B8))
        have HW := hide hw8
        clear hw8 b7 K2 B6 KO
        go_upto_region 18 with fail
        rw [← unhide HW]
        clear HW 
        go_wp2_with fail
        refine (unhide K3).mono ?_
        rintro r w9 ⟨g0, g1, g2, g3, g4, g5, a1, LA, k1, a2, LR, k2, a3, LQ, k3, a4, LJ, k4, g10, g11, a5, LN, k5, g13, g14, rfl, b9⟩
        obtain ⟨w10, hw10⟩ : ∃ z, z = w9.alloc (.cells #[.int .i64 g0, .int .i64 g1, .int .i64 g2, .int .i64 g3, .int .i64 g4, .bool g5, .slice a1 LA k1, .slice a2 LR k2, .slice a3 LQ k3, .slice a4 LJ k4, .int .i64 g10, .int .i64 g11, .slice a5 LN k5, .int .i64 g13, .int .i64 g14] 31) := ⟨_, rfl⟩
        have B10 := hide (bw_tr (bw_tr (unhide B8) b9) (by rw [hw10]; exact bwA w9 _ : Below w9.heap.size w9 w10))
        have K4 := hide (unhide KA w10 (unhide B10))
        have HW := hide hw10
        clear hw10 b9 K3 B8 KLs KA
        go_upto_region 19 with fail
        rw [← unhide HW]
        clear HW 
        rcases Nat.eq_zero_or_pos i with z | z
        · subst z
          go_wp2_with fail
          refine (unhide K4).mono ?_
          rintro r w11 ⟨rfl, b11⟩
          have B11 := hide (bw_tr (unhide B10) b11)
          clear b11 K4 B10
          go_wp2_with fail
          go_ret
          exact ⟨rfl, unhide B11⟩
        · have z1 : (0 : Int) < (i : Int) := by omega
          have z2 : decide (0 < i) = true := decide_eq_true z
          go_wp2_with fail
          refine (unhide K4).mono ?_
          rintro r w11 ⟨rfl, b11⟩
          have B11 := hide (bw_tr (unhide B10) b11)
          clear b11 K4 B10
          go_wp2_with fail
          go_ret
          exact ⟨rfl, unhide B11⟩
end Go.Proofs.YthlbdajnkdkocaaDoor
