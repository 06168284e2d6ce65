/- IndexUp: for every number x and every number of leaves, the law answers true: what stands above x and beside it in the tree is what the document says, and lists of two calls share no memory. No condition. -/
import Derived.Test.YtkamcjmimfjnkaaGreatDoorIxFrameU
import Derived.Test.YtkamcjmimfjnkaaGreatDoorCards
import Derived.Test.YtkamcjmimfjnkaaGreatDoorTie
import Derived.Test.YtkamcjmimfjnkaaGreatDoorIxRefE
import Derived.Test.YtkamcjmimfjnkaaGreatDoorBookF
import Derived.Laws.Tables
namespace Go.Proofs.YtkamcjmimfjnkaaGreatDoor
open Go.ChangeShapes Go.WideShapes Go.ChangeAt Go.RowKit

theorem numbers_any (B b : Nat) (lv : Value) (vs : List Value) (p : Option Addr) (n cap : Nat) (w : World) (h : Bk B w b lv vs) (hB : B ≤ w.heap.size) (hl : vs.length ≤ 100) :
    Calls Tryz.prog 13 #[.pointer (some ⟨b, 0, none⟩), .slice p n cap] w fun e w' => e = .returned (.tuple #[]) ∧ ∃ lv', Bk B w' b lv' (vs ++ [.slice p n cap]) ∧ Fr (b :: lv.ownBlock.toList) w w' ∧ (∀ k, lv'.ownBlock = some k → lv.ownBlock = some k ∨ w.heap.size ≤ k) := by
  have K := keep_any B b lv vs p n cap w h hB hl
  go_enter Tryz.func13, Tryz.ntmps13
  go_wp2_with fail
  refine K.mono ?_
  rintro e w1 ⟨rfl, hq⟩
  go_wp2
  go_end0
  exact ⟨rfl, hq⟩

theorem Ints.keep {B : Nat} {w w' : World} {b : Nat} {lv v : Value} {vs : List Value} {l : List Int} (h : Ints B w v l) (hk : Bk B w b lv vs) (hf : Fr (b :: lv.ownBlock.toList) w w') : Ints B w' v l := by
  refine ⟨h.1, ?_⟩
  rcases h.2 with h2 | ⟨g, cap, cur, hv, q0, hg, r⟩
  · exact Or.inl h2
  · refine Or.inr ⟨g, cap, cur, hv, q0, ?_, r⟩
    rw [hf.block g]
    · exact hg
    · rcases Nat.lt_or_ge g w.heap.size with h1 | h1
      · exact h1
      · rw [Array.getElem?_eq_none h1] at hg; cases hg
    · intro c
      rcases List.mem_cons.1 c with rfl | c
      · rw [hk.blk] at hg; simp at hg
      · have e : lv.ownBlock = some g := by simpa using c
        have := owns_type hk.own e hg
        exact absurd this (by decide)
theorem fr_below {B : Nat} {w w' : World} {b : Nat} {lv : Value} {vs : List Value} (hk : Bk B w b lv vs) (hb : B ≤ b) (hf : Fr (b :: lv.ownBlock.toList) w w') (hB : B ≤ w.heap.size) : Below B w w' := by
  refine ⟨hf.os, hf.tape, hf.output, hf.size, fun k hk2 => hf.block k (by omega) ?_⟩
  intro c
  rcases List.mem_cons.1 c with rfl | c
  · omega
  · have e : lv.ownBlock = some k := by simpa using c
    have := (World.ownsRow.lt hk.own k e).1
    omega
theorem setRow_new (w : World) (cells : Array Value) (t : TypeId) (new : Array Value) : ((w.alloc (.cells cells t)).setRow w.heap.size new).heap[w.heap.size]? = some (.cells new t (0, 0)) := by
  have h := heap_alloc_new w (.cells cells t)
  simp only [World.setRow, Array.getElem?_modify, h]
  simp
theorem setRow_below (w : World) (cells : Array Value) (t : TypeId) (new : Array Value) : Below w.heap.size w ((w.alloc (.cells cells t)).setRow w.heap.size new) := by
  have hb : Below w.heap.size w (w.alloc (.cells cells t)) := (Below.refl _ _).alloc (Nat.le_refl _) _
  refine ⟨hb.os, hb.tape, hb.output, by simp [World.setRow], fun k hk => ?_⟩
  rw [← hb.block k hk]
  have hne : ¬ w.heap.size = k := by omega
  simp only [World.setRow, Array.getElem?_modify, if_neg hne]
theorem four_apart {v1 v2 v3 v4 : Value} {a b c d e : Nat} (h1 : ∀ k, v1.ownBlock = some k → a ≤ k ∧ k < b) (h2 : ∀ k, v2.ownBlock = some k → b ≤ k ∧ k < c) (h3 : ∀ k, v3.ownBlock = some k → c ≤ k ∧ k < d) (h4 : ∀ k, v4.ownBlock = some k → d ≤ k ∧ k < e) (_hab : a ≤ b) (hbc : b ≤ c) (hcd : c ≤ d) :
    ∀ (i j : Nat) (u v : Value) (k : Nat), i ≠ j → [v1, v2, v3, v4][i]? = some u → [v1, v2, v3, v4][j]? = some v → u.ownBlock = some k → v.ownBlock ≠ some k := by
  intro i j u v k hij hu hv hk hk2
  have hb : ∀ (i : Nat) (u : Value), [v1, v2, v3, v4][i]? = some u → u.ownBlock = some k → (i = 0 ∧ a ≤ k ∧ k < b) ∨ (i = 1 ∧ b ≤ k ∧ k < c) ∨ (i = 2 ∧ c ≤ k ∧ k < d) ∨ (i = 3 ∧ d ≤ k ∧ k < e) := by
    intro i u hu hk
    match i, hu with
    | 0, hu => simp at hu; subst hu; exact Or.inl ⟨rfl, h1 k hk⟩
    | 1, hu => simp at hu; subst hu; exact Or.inr (Or.inl ⟨rfl, h2 k hk⟩)
    | 2, hu => simp at hu; subst hu; exact Or.inr (Or.inr (Or.inl ⟨rfl, h3 k hk⟩))
    | 3, hu => simp at hu; subst hu; exact Or.inr (Or.inr (Or.inr ⟨rfl, h4 k hk⟩))
    | i + 4, hu => simp at hu
  have q1 := hb i u hu hk
  have q2 := hb j v hv hk2
  omega
theorem four_rows {B : Nat} {w : World} {v1 v2 v3 v4 : Value} {l1 l2 l3 l4 : List Int} (h1 : Ints B w v1 l1) (h2 : Ints B w v2 l2) (h3 : Ints B w v3 l3) (h4 : Ints B w v4 l4) : ∀ (i : Nat) (v : Value) (l : List Int), [v1, v2, v3, v4][i]? = some v → [l1, l2, l3, l4][i]? = some l → Ints B w v l := by
  intro i v l hv hl
  match i, hv, hl with
  | 0, hv, hl => simp at hv hl; subst hv; subst hl; exact h1
  | 1, hv, hl => simp at hv hl; subst hv; subst hl; exact h2
  | 2, hv, hl => simp at hv hl; subst hv; subst hl; exact h3
  | 3, hv, hl => simp at hv hl; subst hv; subst hl; exact h4
  | i + 4, hv, _ => simp at hv

set_option maxRecDepth 100000 in
set_option maxHeartbeats 4000000 in
theorem IndexUp_walk (x y : Int) (w : World) (_x1 : -9223372036854775808 ≤ x) (_x2 : x ≤ 9223372036854775807) (_y1 : -9223372036854775808 ≤ y) (_y2 : y ≤ 9223372036854775807) (hT : Tab w) :
    Calls Tryz.prog 3 #[.int .i64 x, .int .i64 y] w fun e w' => e = .returned (.bool true) ∧ Below w.heap.size w w' := by
  have P1 := parent_any x y w hT
  have S1 := sibling_any x y w hT
  have dl := dirF_len 31 x y
  have cl := copF_len 31 x y
  have hdl : (dir x y).length ≤ 31 := dl
  have hcl : (cop x y).length ≤ 31 := by unfold cop; omega
  have RP := fun w => rparent_any x y w
  have RS := fun w => rsibling_any x y w
  have RD := fun w => rdirect_any x y w
  have RC := fun w => rcopath_any x y w
  have D := fun w hT => direct_any x y w hT
  have C := fun w hT => copath_any x y w hT
  clear dl cl
  generalize parV x y = V1 at *
  generalize parB x y = B1 at *
  generalize sibV x y = V2 at *
  generalize dir x y = LD at *
  generalize cop x y = LC at *
  go_enter Tryz.func3, Tryz.ntmps3
  go_wp2_with fail
  refine (P1).mono ?_
  rintro e w ⟨rfl, rfl⟩
  go_wp2_with fail
  refine (S1).mono ?_
  rintro e w ⟨rfl, rfl⟩
  go_wp2_with fail
  refine (D w hT).mono ?_
  rintro e w1 ⟨v1, rfl, i1, b1⟩
  go_wp2_with fail
  refine (D w1 (hT.bw b1)).mono ?_
  rintro e w2 ⟨v2, rfl, i2, c2⟩
  have b2 := bw_tr b1 c2
  go_wp2_with fail
  refine (C w2 (hT.bw b2)).mono ?_
  rintro e w3 ⟨v3, rfl, i3, c3⟩
  have b3 := bw_tr b2 c3
  go_wp2_with fail
  refine (C w3 (hT.bw b3)).mono ?_
  rintro e w4 ⟨v4, rfl, i4, c4⟩
  have b4 := bw_tr b3 c4
  go_wp2_with fail
  refine (RP w4).mono ?_
  rintro e w4 ⟨rfl, rfl⟩
  go_wp2_with fail
  refine (RS w4).mono ?_
  rintro e w4 ⟨rfl, rfl⟩
  go_wp2_with fail
  refine (RD w4).mono ?_
  rintro e w5 ⟨v5, rfl, i5, c5⟩
  go_wp2_with fail
  refine (RC w5).mono ?_
  rintro e w6 ⟨v6, rfl, i6, c6⟩
  have b6 := bw_tr b4 (bw_tr c5 c6)
  -- where the four lists stand
  have o1 : ∀ k, v1.ownBlock = some k → w.heap.size ≤ k ∧ k < w1.heap.size := fun k hk => World.ownsRow.lt i1 k hk
  have o2 : ∀ k, v2.ownBlock = some k → w1.heap.size ≤ k ∧ k < w2.heap.size := fun k hk => World.ownsRow.lt i2 k hk
  have o3 : ∀ k, v3.ownBlock = some k → w2.heap.size ≤ k ∧ k < w3.heap.size := fun k hk => World.ownsRow.lt i3 k hk
  have o4 : ∀ k, v4.ownBlock = some k → w3.heap.size ≤ k ∧ k < w4.heap.size := fun k hk => World.ownsRow.lt i4 k hk
  have hap := four_apart o1 o2 o3 o4 b1.size c2.size c3.size
  have b46 := bw_tr c5 c6
  have j1 : Ints w.heap.size w6 v1 LD := i1.bw (bw_tr c2 (bw_tr c3 (bw_tr c4 b46)))
  have j2 : Ints w.heap.size w6 v2 LD := (i2.bw (bw_tr c3 (bw_tr c4 b46))).mono b1.size
  have j3 : Ints w.heap.size w6 v3 LC := (i3.bw (bw_tr c4 b46)).mono b2.size
  have j4 : Ints w.heap.size w6 v4 LC := (i4.bw b46).mono b3.size
  have j5 := (i5.nums).bw c6
  have j6 := i6.nums
  have HJ := hide (And.intro hap (And.intro j1 (And.intro j2 (And.intro j3 j4))))
  obtain ⟨⟨p1, q1, rfl⟩, _⟩ := j1.nums.form
  obtain ⟨⟨p2, q2, rfl⟩, _⟩ := j2.nums.form
  obtain ⟨⟨p3, q3, rfl⟩, _⟩ := j3.nums.form
  obtain ⟨⟨p4, q4, rfl⟩, _⟩ := j4.nums.form
  have G1 := same_any _ _ _ _ w6 j1.nums j5
  rw [decide_eq_true rfl] at G1
  clear o1 o2 o3 o4 hap i1 i2 i3 i4 i5 i6 P1 S1 RP RS RD RC D C c2 c3 c4 c5 c6 b1 b2 b3 b4 b46
  go_wp2_with fail
  refine G1.mono ?_
  rintro e w7 ⟨rfl, d7⟩
  have G2 := same_any _ _ _ _ w7 (j2.nums.bw d7) (j5.bw d7)
  rw [decide_eq_true rfl] at G2
  go_wp2_with fail
  refine G2.mono ?_
  rintro e w8 ⟨rfl, d8⟩
  have d68 := bw_tr d7 d8
  have G3 := same_any _ _ _ _ w8 (j3.nums.bw d68) (j6.bw d68)
  rw [decide_eq_true rfl] at G3
  go_wp2_with fail
  refine G3.mono ?_
  rintro e w9 ⟨rfl, d9⟩
  have d69 := bw_tr d68 d9
  have G4 := same_any _ _ _ _ w9 (j4.nums.bw d69) (j6.bw d69)
  rw [decide_eq_true rfl] at G4
  go_wp2_with fail
  refine G4.mono ?_
  rintro e wa ⟨rfl, da⟩
  have d6a := bw_tr d69 da
  have ba := bw_tr b6 d6a
  have hsz := ba.size
  clear G1 G2 G3 G4 d7 d8 d68 d9 d69 da j1 j2 j3 j4 j5 j6
  go_wp2_with fail
  refine wp_build 62 #[] rfl (by kernel_rfl) ?_
  have hbuilt : (Tryz.prog.built 62 []).getD #[] = bookCells 0 (.slice none 0 0) := by kernel_rfl
  have hzero : ∀ w, (zeroValue 62).run Tryz.prog w = .ok (.agg (bookCells 0 (.slice none 0 0))) w := fun w => by kernel_rfl
  have hall : (bookCells 0 (.slice none 0 0)).all (·.oneCell') = true := by kernel_rfl
  have hsz62 : (Tryz.prog.info? 62).map (·.size) = some (bookCells 0 (.slice none 0 0)).size := by kernel_rfl
  simp only [List.map_toArray, List.map_nil, hbuilt]
  go_wp2_with (refine wpList_store_row rfl 62 (.tmp 19) (.tmp 104) rfl wa.heap.size (bookCells 0 (.slice none 0 0)) rfl rfl 62 (bookCells 0 (.slice none 0 0)) (heap_alloc_new _ _) hsz62 rfl hall ?_)
  obtain ⟨W, hW⟩ : ∃ W, W = (wa.alloc (.cells (bookCells 0 (.slice none 0 0)) 62)).setRow wa.heap.size (bookCells 0 (.slice none 0 0)) := ⟨_, rfl⟩
  have hblk : W.heap[wa.heap.size]? = some (.cells (bookCells 0 (.slice none 0 0)) 62 (0, 0)) := by rw [hW]; exact setRow_new wa _ _ _
  have hWb : Below wa.heap.size wa W := by rw [hW]; exact setRow_below wa _ _ _
  rw [← hW]
  clear hW
  obtain ⟨b, hb⟩ : ∃ b, b = wa.heap.size := ⟨_, rfl⟩
  rw [← hb] at hblk ⊢
  have hbB : w.heap.size ≤ b := by omega
  have k0 : Bk w.heap.size W b (.slice none 0 0) [] := ⟨hblk, World.ownsRow_nil _ _ _ _⟩
  have e6 := bw_tr d6a hWb
  have bW := bw_tr ba hWb
  have j1 := (unhide HJ).2.1.bw e6
  have j2 := (unhide HJ).2.2.1.bw e6
  have j3 := (unhide HJ).2.2.2.1.bw e6
  have j4 := (unhide HJ).2.2.2.2.bw e6
  have s0 := bW.size
  clear hblk hWb hb d6a ba hsz
  have N1 := numbers_any w.heap.size b _ [] p1 LD.length q1 W k0 s0 (by simp)
  go_wp2_with fail
  refine N1.mono ?_
  rintro e wb ⟨rfl, lv1, k1, f1, _⟩
  have b1 := fr_below k0 hbB f1 s0
  have s1 := Nat.le_trans s0 f1.size
  have N2 := numbers_any w.heap.size b _ _ p2 LD.length q2 wb k1 s1 (by simp)
  go_wp2_with fail
  refine N2.mono ?_
  rintro e wc ⟨rfl, lv2, k2, f2, _⟩
  have b2 := fr_below k1 hbB f2 s1
  have s2 := Nat.le_trans s1 f2.size
  have N3 := numbers_any w.heap.size b _ _ p3 LC.length q3 wc k2 s2 (by simp)
  go_wp2_with fail
  refine N3.mono ?_
  rintro e wd ⟨rfl, lv3, k3, f3, _⟩
  have b3 := fr_below k2 hbB f3 s2
  have s3 := Nat.le_trans s2 f3.size
  have N4 := numbers_any w.heap.size b _ _ p4 LC.length q4 wd k3 s3 (by simp)
  go_wp2_with fail
  refine N4.mono ?_
  rintro e we ⟨rfl, lv4, k4, f4, _⟩
  have b4 := fr_below k3 hbB f4 s3
  have s4 := Nat.le_trans s3 f4.size
  have m1 := (((j1.keep k0 f1).keep k1 f2).keep k2 f3).keep k3 f4
  have m2 := (((j2.keep k0 f1).keep k1 f2).keep k2 f3).keep k3 f4
  have m3 := (((j3.keep k0 f1).keep k1 f2).keep k2 f3).keep k3 f4
  have m4 := (((j4.keep k0 f1).keep k1 f2).keep k2 f3).keep k3 f4
  have hH : Hl w.heap.size we b lv4 [.slice p1 LD.length q1, .slice p2 LD.length q2, .slice p3 LC.length q3, .slice p4 LC.length q4] [LD, LD, LC, LC] := ⟨k4, rfl, four_rows m1 m2 m3 m4, (unhide HJ).1⟩
  have bE : Below w.heap.size w we := (((bW.trans b1).trans b2).trans b3).trans b4
  have A := apart_any w.heap.size b lv4 _ _ we hH (by simp) (by simp) (by
    intro l hl
    simp only [List.mem_cons, List.not_mem_nil, or_false] at hl
    rcases hl with rfl | rfl | rfl | rfl <;> omega) s4
  clear N1 N2 N3 N4 k0 k1 k2 k3 k4 m1 m2 m3 m4 j1 j2 j3 j4 f1 f2 f3 f4 b1 b2 b3 b4 hH HJ e6 bW s0 s1 s2 s3 s4 hdl hcl
  go_wp2_with fail
  refine A.mono ?_
  rintro e wf ⟨rfl, bF⟩
  have bG := bE.trans bF
  go_wp2_with fail
  refine (alive_any wf (hT.bw bG)).mono ?_
  rintro e w9 ⟨rfl, hb9⟩
  go_wp2
  go_ret
  exact ⟨rfl, bw_tr bG hb9⟩

set_option maxRecDepth 100000 in
theorem IndexUp_lifted (os : Os) (started : os.Started) (H : Type) (enc : TypeId × Value → H) :
    ReturnsInHanded {} Tryz.checked os 3 .any (fun w args => (Rows.indexUpSpec.pre enc Tryz.prog Tryz.f3 [] false w args ∧ laidMetH Tryz.prog laidTab w) ∧ sizedMet enc Tryz.prog Tryz.f3 (OpenSpec.ofChange Rows.indexUpSpec) false w args)
      (Rows.indexUpSpec.post enc Tryz.prog Tryz.f3 false true false false) := by
  refine returnsInHanded_of_change_and (C := Tryz.checked) (X := fun w _ => laidMetH Tryz.prog laidTab w) (fun _ _ _ hh h => h.of_heap hh) own started (by kernel_rfl) Tryz.func3
    (ChangeSpec.witness_shaped (enc := enc) (C := Tryz.checked) (os := os) (X := fun w _ => laidMetH Tryz.prog laidTab w) false (World.doorLaid Tryz.prog 24 os) #[.int .i64 0, .int .i64 0] 8 rfl (World.shaped_of_RefB (by kernel_rfl) (by kernel_rfl)) (by kernel_rfl) (by kernel_rfl) (by kernel_rfl) (door_met os _)) ?_
  intro W base args ds gs before hval0 hW _ _ hL _
  have hval : ∀ (j : Nat) t v, Tryz.f3.params[j]? = some t → args[j]? = some v → Value.okWide Tryz.prog W .any base t v := hval0
  have hW' := hW
  obtain ⟨p, q, hA0, hV, rfl, hfz, hnd⟩ := hW
  have hA : DataW.TrodAll enc Tryz.prog W 0 (fun _ => true) true Tryz.f3.params.toList args.toList ds p := hA0
  rw [Tryz.params3] at hA hval
  obtain ⟨v0, vs0, d0, ds0, p0, q0, hargs, rfl, rfl, h0, r0⟩ := trodAll_cons hA
  obtain ⟨v1, vs1, d1, ds1, p1, q1, rfl, rfl, rfl, h1, r1⟩ := trodAll_cons r0
  obtain ⟨rfl, rfl, rfl⟩ := trodAll_nil r1
  obtain rfl : args = #[v0, v1] := by cases args; simp_all
  obtain ⟨rfl, rfl⟩ := trodVars_none hV
  obtain ⟨a0, rfl, rfl, rfl, w0⟩ := open_int Tryz.underlying3 (hval 0 3 v0 rfl rfl) h0
  obtain ⟨a1, rfl, rfl, rfl, w1⟩ := open_int Tryz.underlying3 (hval 1 3 v1 rfl rfl) h1
  clear hA0 hval0
  refine (IndexUp_walk a0 a1 W (bounds64 w0).1 (bounds64 w0).2 (bounds64 w1).1 (bounds64 w1).2 (tab_of_laid hL)).mono fun e W' ⟨he, bel⟩ => ?_
  subst he
  exact ⟨_, rfl, _, _, _, [], _, [], hW', trodAll_mk1 (shut_bool Tryz.underlying4 _), (trodAll_cons_mk (shut_int Tryz.underlying3 w0) (trodAll_cons_mk (shut_int Tryz.underlying3 w1) trodAll_mk0)), rfl, bel.frame _, fun h => by cases h⟩

theorem IndexUp_over : Rows.IndexUpSaid :=
  OpenClaim.holds_of_wide 3 Tryz.f3 rfl rfl rfl rfl rfl rfl rfl ⟨rfl, rfl, rfl, rfl, rfl⟩ rfl rfl rfl rfl rfl (by kernel_rfl) Tryz.func3 (by kernel_rfl)
    (of_decide_eq_true (by kernel_rfl)) (by unfold Func.isWrapper; first | (rw [if_pos (by decide +kernel)]; kernel_rfl) | (rw [if_neg (by decide +kernel)]; exact ⟨rfl, rfl⟩))
    (fun os started H enc _ => IndexUp_lifted os started H enc)

theorem IndexUp_holds : Rows.IndexUpCardSaid :=
  Claim7.holds_tied_plain_at .later [] [.data, .data, .data] true (Rows.indexUpCard.stood.harness) false
    IndexUp_over (fun _ h => by cases h) (by kernel_rfl) (fun _ h => by cases h) indexUp_row_tie rfl ⟨rfl, rfl⟩ (by kernel_rfl) rfl
    (fun f fn hf hfn => by
      obtain rfl : f = 3 := Option.some.inj ((show Tryz.prog.funcNamed "phratry/phratrylaw02.IndexUp" = some 3 by kernel_rfl).symm.trans hf) |>.symm
      obtain rfl : fn = Tryz.f3 := (Option.some.inj (Tryz.func3.symm.trans hfn)).symm
      exact ⟨by kernel_rfl, fun j t ht => by
        rw [Tryz.params3] at ht
        have hm : t ∈ [3, 3] := by simpa using Array.mem_of_getElem? ht
        have hall : ([3, 3].all fun u => !Tryz.prog.wantsStandIn u) = true := by kernel_rfl
        exact (show Tryz.prog.wantsStandIn t = false by simpa using List.all_eq_true.1 hall t hm)⟩)
    (by kernel_rfl)
#print axioms IndexUp_holds

end Go.Proofs.YtkamcjmimfjnkaaGreatDoor
