/- Texts joined: LgLv LgLw LgLawApart0. -/
import Derived.Test.YtnfhbmlmemifjaaGreatDoorZ27
import Derived.Test.YtnfhbmlmemifjaaGreatDoorZ28
import Derived.Test.YtnfhbmlmemifjaaGreatDoorZ02
import Derived.Test.YtnfhbmlmemifjaaGreatDoorZ12
import Derived.Test.YtnfhbmlmemifjaaGreatDoorZ25
import Derived.Deep.RegionHeld3
/- What is so of whoever does something at all: leaf, alive of layer 14. -/
namespace Go.Proofs.YtnfhbmlmemifjaaGreatDoor
open Go.RowKit Go.Maps
def lfT (m : Int) : List Nd := [⟨1, m, 0, []⟩]
set_option maxRecDepth 100000 in
set_option maxHeartbeats 2000000 in
theorem leaf_any (w : World) (m : Int) :
    Calls Tryz.prog 158 #[.int .i64 m] w fun e w' => ∃ g, e = .returned (.agg #[.slice (some ⟨g, 0, none⟩) 1 1]) ∧ Trd w' (.slice (some ⟨g, 0, none⟩) 1 1) (lfT m) ∧ Below w.heap.size w w' := by
  obtain ⟨WZ, hWZ⟩ : ∃ z, z = (w.alloc (.cells #[.slice (some ⟨w.heap.size + 1, 0, none⟩) 1 1] 32)).alloc (.cells #[.int .i64 1, .int .i64 m, .int .i64 0, .slice none 0 0] 256) := ⟨_, rfl⟩
  have e1 : (w.alloc (.cells #[.slice (some ⟨w.heap.size + 1, 0, none⟩) 1 1] 32)).heap.size = w.heap.size + 1 := by simp
  have k1 : WZ.heap[w.heap.size]? = some (.cells #[.slice (some ⟨w.heap.size + 1, 0, none⟩) 1 1] 32 (0, 0)) := by
    have h1 := heap_alloc_new w (.cells #[.slice (some ⟨w.heap.size + 1, 0, none⟩) 1 1] 32)
    rw [hWZ, Below.heap_alloc _ _ _ (by simp)]; exact h1
  have kz : WZ.heap[w.heap.size + 1]? = some (.cells #[.int .i64 1, .int .i64 m, .int .i64 0, .slice none 0 0] 256 (0, 0)) := by
    have h2 := heap_alloc_new (w.alloc (.cells #[.slice (some ⟨w.heap.size + 1, 0, none⟩) 1 1] 32)) (.cells #[.int .i64 1, .int .i64 m, .int .i64 0, .slice none 0 0] 256)
    rw [e1] at h2
    rw [hWZ]; exact h2
  have z0 : WZ.cell? ⟨w.heap.size, 0, none⟩ = some (.slice (some ⟨w.heap.size + 1, 0, none⟩) 1 1) := blk_c k1 rfl
  have HR : Hid (Trd WZ (.slice (some ⟨w.heap.size + 1, 0, none⟩) 1 1) (lfT m) ∧ Below w.heap.size w WZ) := by
    refine ⟨⟨by simp [lfT], by simp [lfT], Or.inr ⟨w.heap.size + 1, 0, 1, rfl, lt_of_blk kz, fun i n hi => ?_⟩⟩, by rw [hWZ]; exact bw_tr (bwA _ _) (bwA _ _)⟩
    match i, hi with
    | 0, hi =>
      have hn : n = ⟨1, m, 0, []⟩ := by simpa [lfT] using hi.symm
      subst hn
      exact ⟨.slice none 0 0, ⟨blk_c kz rfl, blk_c kz rfl, blk_c kz rfl, blk_c kz rfl⟩, Or.inl ⟨rfl, none, 0, rfl, fun _ => rfl⟩⟩
    | (i + 1), hi => simp [lfT] at hi
  have HZ := hide hWZ
  clear k1 hWZ kz e1
  go_enter Tryz.func158, Tryz.ntmps158
  go_wp2_with fail
  rw [← unhide HZ]
  exact bodyPost_ret (v := .agg #[.slice (some ⟨w.heap.size + 1, 0, none⟩) 1 1]) (by simp [results, Tryz.results158, go_sem, z0]) rfl ⟨w.heap.size + 1, rfl, (unhide HR).1, (unhide HR).2⟩
def lvC (ep m : Int) : Cm := ⟨3, ep, 0, 0, 0, false, [], [], [], [], 0, 0, lfT m, 0, 0⟩
def lvX (g : Nat) : Cv := ⟨.slice none 0 0, .slice none 0 0, .slice none 0 0, .slice none 0 0, .slice (some ⟨g, 0, none⟩) 1 1⟩
theorem lvC_r {w : World} {g : Nat} {ep m : Int} (h : Trd w (.slice (some ⟨g, 0, none⟩) 1 1) (lfT m)) : CmR w (lvC ep m) (lvX g) :=
  ⟨RI.nil _ _, Or.inl ⟨rfl, none, 0, rfl, fun _ => rfl⟩, by simp [lvC], RI.nil _ _, RI.nil _ _, h⟩
theorem lvC_sm (ep m : Int) : SmC (lvC ep m) := ⟨by simp [lvC], by simp [lvC], by simp [lvC], by simp [lvC], by simp [lvC, lfT], by simp [lvC, lfT], by simp [lvC], by simp [lvC], by simp [lvC]⟩
def lvL1 : List Lg := [(3, [lvC 0 1])]
def lvL2 : List Lg := [(3, [lvC 0 1, lvC 1 2])]
theorem lvL1_sm : SmL lvL1 := ⟨by simp [lvL1], fun p hp => by simp [lvL1] at hp; subst hp; exact ⟨by simp, fun c hc => by simp at hc; subst hc; exact lvC_sm _ _⟩⟩
theorem lvL2_sm : SmL lvL2 := ⟨by simp [lvL2], fun p hp => by simp [lvL2] at hp; subst hp; exact ⟨by simp, fun c hc => by simp at hc; rcases hc with rfl | rfl <;> exact lvC_sm _ _⟩⟩
theorem lv_e1 : appE [] (lvC 0 1) = 0 ∧ appL [] (lvC 0 1) = lvL1 := ⟨by kernel_rfl, by kernel_rfl⟩
theorem lv_e2 : appE lvL1 (lvC 1 2) = 0 ∧ appL lvL1 (lvC 1 2) = lvL2 := ⟨by kernel_rfl, by kernel_rfl⟩
theorem lv_e3 : appE lvL2 (lvC 1 2) = 10 ∧ lenL lvL2 3 = 2 := ⟨by kernel_rfl, by kernel_rfl⟩
theorem lv_s : srt [2, 1] = [1, 2] := by
  simp [srt, List.mergeSort, List.MergeSort.Internal.splitInTwo]
theorem lv_t : tchL lvL2 3 1 = Lib.compact (srt [2, 1]) := by kernel_rfl
theorem lv_e4 : tchL lvL2 3 1 = [1, 2] := by rw [lv_t, lv_s]; kernel_rfl
theorem lv_e5 : chkB [((0 : Int), ([] : List Cm))] = false := by kernel_rfl
set_option maxRecDepth 100000 in
set_option maxHeartbeats 4000000 in
theorem alive14_any {w : World} (hT : Tab w) :
    Calls Tryz.prog 25 #[] w fun e w' => e = .returned (.bool true) ∧ Below w.heap.size w w' := by
  have KL : Hid (∀ W m, Calls Tryz.prog 158 #[.int .i64 m] W fun e w' => ∃ g, e = .returned (.agg #[.slice (some ⟨g, 0, none⟩) 1 1]) ∧ Hid (Trd w' (.slice (some ⟨g, 0, none⟩) 1 1) (lfT m)) ∧ Below W.heap.size W w') := fun W m => leaf_any W m
  have KA1 : Hid (∀ W g, Below w.heap.size w W → Trd W (.slice (some ⟨g, 0, none⟩) 1 1) (lfT 1) → Calls Tryz.prog 28 #[.slice none 0 0, .agg #[.int .i64 3, .int .i64 0, .int .i64 0, .int .i64 0, .int .i64 0, .bool false, .slice none 0 0, .slice none 0 0, .slice none 0 0, .slice none 0 0, .int .i64 0, .int .i64 0, .slice (some ⟨g, 0, none⟩) 1 1, .int .i64 0, .int .i64 0]] W fun e w' => ∃ a c, e = .returned (.tuple #[.slice a 1 c, .int .i64 0]) ∧ Hid (Lgs w' (.slice a 1 c) lvL1) ∧ Below W.heap.size W w') := fun W g hW ht => by
    have h0 : Lgs W (.slice none 0 0) [] := ⟨by simp, none, 0, rfl, Or.inl rfl⟩
    have K := lgAppend_any h0 ⟨by simp, by simp⟩ (lvC_r (ep := 0) ht) (lvC_sm 0 1) (hT.bw hW)
    refine Calls.mono K ?_
    rintro e w' ⟨v', xs', rfl, ho, hb⟩
    rw [lv_e1.2] at ho
    rw [lv_e1.1]
    obtain ⟨a, c, hv⟩ := own_slice ho.row
    subst hv
    exact ⟨a, c, rfl, ho.lgs lvL1_sm, hb⟩
  have KA2 : Hid (∀ W g a c, Below w.heap.size w W → Lgs W (.slice a 1 c) lvL1 → Trd W (.slice (some ⟨g, 0, none⟩) 1 1) (lfT 2) → Calls Tryz.prog 28 #[.slice a 1 c, .agg #[.int .i64 3, .int .i64 1, .int .i64 0, .int .i64 0, .int .i64 0, .bool false, .slice none 0 0, .slice none 0 0, .slice none 0 0, .slice none 0 0, .int .i64 0, .int .i64 0, .slice (some ⟨g, 0, none⟩) 1 1, .int .i64 0, .int .i64 0]] W fun e w' => ∃ a c, e = .returned (.tuple #[.slice a 1 c, .int .i64 0]) ∧ Hid (Lgs w' (.slice a 1 c) lvL2) ∧ Below W.heap.size W w') := fun W g a c hW h0 ht => by
    have K := lgAppend_any h0 lvL1_sm (lvC_r (ep := 1) ht) (lvC_sm 1 2) (hT.bw hW)
    refine Calls.mono K ?_
    rintro e w' ⟨v', xs', rfl, ho, hb⟩
    rw [lv_e2.2] at ho
    rw [lv_e2.1]
    obtain ⟨a, c, hv⟩ := own_slice ho.row
    subst hv
    exact ⟨a, c, rfl, ho.lgs lvL2_sm, hb⟩
  have KA3 : Hid (∀ W g a c, Below w.heap.size w W → Lgs W (.slice a 1 c) lvL2 → Trd W (.slice (some ⟨g, 0, none⟩) 1 1) (lfT 2) → Calls Tryz.prog 28 #[.slice a 1 c, .agg #[.int .i64 3, .int .i64 1, .int .i64 0, .int .i64 0, .int .i64 0, .bool false, .slice none 0 0, .slice none 0 0, .slice none 0 0, .slice none 0 0, .int .i64 0, .int .i64 0, .slice (some ⟨g, 0, none⟩) 1 1, .int .i64 0, .int .i64 0]] W fun e w' => ∃ a n c, e = .returned (.tuple #[.slice a n c, .int .i64 10]) ∧ Below W.heap.size W w') := fun W g a c hW h0 ht => by
    have K := lgAppend_any h0 lvL2_sm (lvC_r (ep := 1) ht) (lvC_sm 1 2) (hT.bw hW)
    refine Calls.mono K ?_
    rintro e w' ⟨v', xs', rfl, ho, hb⟩
    rw [lv_e3.1]
    obtain ⟨a, c, hv⟩ := own_slice ho.row
    subst hv
    exact ⟨a, _, c, rfl, hb⟩
  have KT : Hid (∀ W a c, Below w.heap.size w W → Lgs W (.slice a 1 c) lvL2 → Calls Tryz.prog 10 #[.slice a 1 c, .int .i64 3, .int .i64 1] W fun e w' => ∃ a n c, e = .returned (.tuple #[.slice a n c, .bool true]) ∧ Hid (Nums w' (.slice a n c) [1, 2]) ∧ Below W.heap.size W w') := fun W a c hW h0 => by
    refine Calls.mono (lgTouched_any h0 lvL2_sm (hT.bw hW) 3 1) ?_
    rintro e w' ⟨v', rfl, hn, hb⟩
    rw [lv_e4] at hn
    rw [lv_e3.2]
    obtain ⟨a, c, hv⟩ := nums_slice hn
    subst hv
    exact ⟨a, _, c, rfl, hn, hb⟩
  have KN : Hid (∀ W a c, Below w.heap.size w W → Lgs W (.slice a 1 c) lvL2 → Calls Tryz.prog 16 #[.slice a 1 c, .int .i64 3] W fun e w' => e = .returned (.int .i64 2) ∧ Below W.heap.size W w') := fun W a c hW h0 => by
    refine Calls.mono (lgLen_any h0 lvL2_sm (hT.bw hW) 3) ?_
    rintro e w' ⟨rfl, hb⟩
    rw [lv_e3.2]
    exact ⟨rfl, hb⟩
  have KS : Hid (∀ W a n c, Nums W (.slice a n c) [1, 2] → Calls Tryz.prog 19 #[.slice a n c, .slice (some ⟨W.heap.size, 0, none⟩) 2 2] (W.alloc (.cells #[.int .i64 1, .int .i64 2] 3)) fun e w' => e = .returned (.bool true) ∧ Below W.heap.size W w') := fun W a n c h0 => by
    have hk := heap_alloc_new W (.cells #[.int .i64 1, .int .i64 2] 3)
    have h2 : Nums (W.alloc (.cells #[.int .i64 1, .int .i64 2] 3)) (.slice (some ⟨W.heap.size, 0, none⟩) 2 2) [1, 2] := by
      refine Or.inr ⟨W.heap.size, 0, 2, rfl, by simp, by unfold maxLen; omega, fun j z hj => ?_⟩
      match j, hj with
      | 0, hj => cases hj; exact blk_c hk rfl
      | 1, hj => cases hj; exact blk_c hk rfl
      | (j + 2), hj => simp at hj
    refine Calls.mono (same_any _ _ _ _ _ (h0.bw (bwA _ _)) h2) ?_
    rintro e w' ⟨rfl, hb⟩
    exact ⟨rfl, bw_tr (bwA _ _) hb⟩
  have KC : Hid (∀ W, Below w.heap.size w W → Calls Tryz.prog 14 #[.slice (some ⟨W.heap.size, 0, none⟩) 1 1] (W.alloc (.cells #[.int .i64 0, .slice none 0 0] 95)) fun e w' => e = .returned (.int .i64 1) ∧ Below W.heap.size W w') := fun W hW => by
    have hk := heap_alloc_new W (.cells #[.int .i64 0, .slice none 0 0] 95)
    have h2 : Lgs (W.alloc (.cells #[.int .i64 0, .slice none 0 0] 95)) (.slice (some ⟨W.heap.size, 0, none⟩) 1 1) [((0 : Int), ([] : List Cm))] := by
      refine ⟨by simp, _, 1, rfl, Or.inr ⟨W.heap.size, 0, rfl, fun i p hi => ?_⟩⟩
      match i, hi with
      | 0, hi =>
        have hp : p = (0, []) := by simpa using hi.symm
        subst hp
        exact ⟨.slice none 0 0, Cms.none _, blk_c hk rfl, blk_c hk rfl⟩
      | (i + 1), hi => simp at hi
    refine Calls.mono (lgCheck_any h2 (hT.bw (bw_tr hW (bwA _ _)))) ?_
    rintro e w' ⟨rfl, hb⟩
    rw [lv_e5]
    exact ⟨rfl, bw_tr (bwA _ _) hb⟩
  clear hT
  go_enter Tryz.func25, Tryz.ntmps25
  go_wp2_with fail
  refine (unhide KL w 1).mono ?_
  rintro e w1 ⟨g1, rfl, t1, b1⟩
  have B1 := hide b1
  clear b1
  go_wp2_with fail
  refine (unhide KA1 w1 g1 (unhide B1) (unhide t1)).mono ?_
  rintro e w2 ⟨a1, c1, rfl, l1, b2⟩
  have B2 := hide (bw_tr (unhide B1) b2)
  clear b2 t1 B1 KA1
  go_wp2_with fail
  refine (unhide KL w2 2).mono ?_
  rintro e w3 ⟨g2, rfl, t2, b3⟩
  have B3 := hide (bw_tr (unhide B2) b3)
  have l1' := hide ((unhide l1).bw b3)
  clear b3 B2 l1
  go_wp2_with fail
  refine (unhide KA2 w3 g2 a1 c1 (unhide B3) (unhide l1') (unhide t2)).mono ?_
  rintro e w4 ⟨a2, c2, rfl, l2, b4⟩
  have B4 := hide (bw_tr (unhide B3) b4)
  clear b4 B3 l1' t2 KA2
  go_wp2_with fail
  refine (unhide KL w4 2).mono ?_
  rintro e w5 ⟨g3, rfl, t3, b5⟩
  have B5 := hide (bw_tr (unhide B4) b5)
  have l2' := hide ((unhide l2).bw b5)
  clear b5 B4 l2 KL
  go_wp2_with fail
  refine (unhide KA3 w5 g3 a2 c2 (unhide B5) (unhide l2') (unhide t3)).mono ?_
  rintro e w6 ⟨a3, n3, c3, rfl, b6⟩
  have B6 := hide (bw_tr (unhide B5) b6)
  have l3 := hide ((unhide l2').bw b6)
  clear b6 B5 l2' t3 KA3
  go_wp2_with fail
  refine (unhide KT w6 a2 c2 (unhide B6) (unhide l3)).mono ?_
  rintro e w7 ⟨a4, n4, c4, rfl, hn, b7⟩
  have B7 := hide (bw_tr (unhide B6) b7)
  have l4 := hide ((unhide l3).bw b7)
  clear b7 B6 l3 KT
  go_wp2_with fail
  refine (unhide KN w7 a2 c2 (unhide B7) (unhide l4)).mono ?_
  rintro e w8 ⟨rfl, b8⟩
  have B8 := hide (bw_tr (unhide B7) b8)
  have hn8 := hide ((unhide hn).bw b8)
  clear b8 B7 l4 KN hn
  go_wp2_with fail
  refine (unhide KS w8 a4 n4 c4 (unhide hn8)).mono ?_
  rintro e w9 ⟨rfl, b9⟩
  have B9 := hide (bw_tr (unhide B8) b9)
  clear b9 B8 hn8 KS
  go_wp2_with fail
  refine (unhide KC w9 (unhide B9)).mono ?_
  rintro e w10 ⟨rfl, b10⟩
  have B10 := hide (bw_tr (unhide B9) b10)
  clear b10 B9 KC
  go_wp2_with fail
  go_ret
  exact ⟨rfl, unhide B10⟩
end Go.Proofs.YtnfhbmlmemifjaaGreatDoor

/- What the laws of layer 14 share: sizes, Beyond, what Get and Last answer, spelt out. -/
namespace Go.Proofs.YtnfhbmlmemifjaaGreatDoor
open Go.RowKit Go.Maps
theorem mem_sum {α : Type} {f : α → Nat} : ∀ {l : List α} {a : α}, a ∈ l → f a ≤ (l.map f).foldr (· + ·) 0
  | [], _, h => by cases h
  | b :: r, a, h => by
    rcases List.mem_cons.1 h with rfl | h
    · simp
    · have := mem_sum (f := f) h; simp only [List.map_cons, List.foldr_cons]; omega
theorem mem_usum {T : List Nd} {n : Nd} (h : n ∈ T) : n.un.length ≤ usum T := by
  unfold usum
  induction T with
  | nil => cases h
  | cons m r ih =>
    rcases List.mem_cons.1 h with rfl | h
    · simp
    · have := ih h; simp only [List.map_cons, List.sum_cons]; omega
theorem smC_of {w : World} {c : Cm} {x : Cv} (h : CmR w c x) (hb : cmN c ≤ 1048576) : SmC c := by
  unfold cmN at hb
  exact ⟨by omega, by omega, by omega, by omega, by omega, fun n hn => by have := mem_usum hn; omega, h.adds.fit, h.seals.fit, h.joins.fit⟩
theorem smL_of {w : World} {v : Value} {l : List Lg} (h : Lgs w v l) (hb : l.length + lsN l ≤ 1048576) : SmL l := by
  refine ⟨by omega, fun p hp => ?_⟩
  obtain ⟨a, cap, rfl⟩ := h.slice
  obtain ⟨i, hi⟩ := List.getElem?_of_mem hp
  obtain ⟨gb, o, _, cv, hcv, _, _⟩ := h.get hi
  obtain ⟨a2, c2, rfl⟩ := hcv.slice
  have h1 : lgN p ≤ lsN l := mem_sum (f := lgN) hp
  unfold lgN at h1
  refine ⟨by omega, fun c hc => ?_⟩
  obtain ⟨j, hj⟩ := List.getElem?_of_mem hc
  obtain ⟨_, _, _, x, hx, _⟩ := hcv.get hj
  have h2 : cmN c ≤ csN p.2 := mem_sum (f := cmN) hc
  exact smC_of hx (by omega)
end Go.Proofs.YtnfhbmlmemifjaaGreatDoor

/- LedgerApart, the walk. -/
namespace Go.Proofs.YtnfhbmlmemifjaaGreatDoor
open Go.RowKit Go.Maps

theorem insl_le : ∀ (l : List Lg) (c : Cm), (insl l c).length ≤ l.length + 1
  | [], c => by simp [insl]
  | p :: r, c => by
    have := insl_le r c
    unfold insl
    split
    · simp
    · split
      · simp
      · simp; omega
structure SzL (k : Nat) (l : List Lg) : Prop where
  n : l.length ≤ k
  g : ∀ p ∈ l, p.2.length ≤ k ∧ ∀ c ∈ p.2, SmC c
theorem SzL.sm {k : Nat} {l : List Lg} (h : SzL k l) (hk : k ≤ 1073741824) : SmL l := ⟨Nat.le_trans h.n hk, fun p hp => ⟨Nat.le_trans (h.g p hp).1 hk, (h.g p hp).2⟩⟩
theorem SzL.ins {k : Nat} {c : Cm} (hc : SmC c) : ∀ {l : List Lg}, SzL k l → SzL (k + 1) (insl l c)
  | [], _ => ⟨by simp [insl], fun q hq => by simp [insl] at hq; subst hq; exact ⟨by simp, fun d hd => by simp at hd; subst hd; exact hc⟩⟩
  | p :: r, h => by
    have h0 := h.g p (by simp)
    have hn := h.n
    simp only [List.length_cons] at hn
    have hr : SzL k r := ⟨by omega, fun z hz => h.g z (by simp [hz])⟩
    have h1 : ∀ z ∈ r, z.2.length ≤ k + 1 ∧ ∀ c ∈ z.2, SmC c := fun z hz => ⟨Nat.le_trans (h.g z (by simp [hz])).1 (by omega), (h.g z (by simp [hz])).2⟩
    unfold insl
    split
    · refine ⟨by simp; omega, fun q hq => ?_⟩
      rcases List.mem_cons.1 hq with rfl | h2
      · refine ⟨by simp; exact h0.1, fun d hd => ?_⟩
        rcases List.mem_append.1 hd with h3 | h3
        · exact h0.2 d h3
        · simp at h3; subst h3; exact hc
      · exact h1 q h2
    · split
      · refine ⟨by simp; omega, fun q hq => ?_⟩
        rcases List.mem_cons.1 hq with rfl | h2
        · exact ⟨by simp, fun d hd => by simp at hd; subst hd; exact hc⟩
        · rcases List.mem_cons.1 h2 with rfl | h3
          · exact ⟨Nat.le_trans h0.1 (by omega), h0.2⟩
          · exact h1 q h3
      · have hrec : SzL (k + 1) (insl r c) := SzL.ins hc hr
        have hl : (insl r c).length ≤ r.length + 1 := insl_le r c
        refine ⟨by simp; omega, fun q hq => ?_⟩
        rcases List.mem_cons.1 hq with rfl | h2
        · exact ⟨Nat.le_trans h0.1 (by omega), h0.2⟩
        · exact hrec.g q h2
theorem SzL.app {k : Nat} {l : List Lg} {c : Cm} (h : SzL k l) (hc : SmC c) : SzL (k + 1) (appL l c) := by
  unfold appL
  split
  · exact h.ins hc
  · exact ⟨by simp, by simp⟩
theorem szL_of {w : World} {v : Value} {l : List Lg} (h : Lgs w v l) (hb : l.length + lsN l ≤ 262144) : SzL 262144 l := by
  have hs := smL_of h (by omega)
  refine ⟨by omega, fun p hp => ⟨?_, (hs.g p hp).c⟩⟩
  have h1 : lgN p ≤ lsN l := mem_sum (f := lgN) hp
  unfold lgN at h1
  omega
end Go.Proofs.YtnfhbmlmemifjaaGreatDoor
