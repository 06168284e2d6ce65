/- Texts joined: PcE PcF PcG. -/
import Derived.Test.YtpcpcgagiapinaaGreatDoorZ28
import Derived.Shelf.Abstract
import Derived.Shelf.RegionOpen
import Derived.Sort.CutIn
/- The contract of path.Joint. -/
namespace Go.Proofs.YtpcpcgagiapinaaGreatDoor.Tn.Pa
open Go.RowKit Go.Maps
attribute [local go_sem] Oper.semAt_some
def jnt (T : List Nd) (i j : Nat) : Int := ((ov T ((2 * i : Nat) : Int)).find? fun x => wi ((2 * j : Nat) : Int) x).getD (-1)
def jntE (T : List Nd) (i j : Int) : Int := if mayB T = true ∧ 0 ≤ i ∧ i < (nlv T : Nat) ∧ 0 ≤ j ∧ j < (nlv T : Nat) then jnt T i.toNat j.toNat else -1
theorem EF.none (w : World) : EF [] w w [] := ⟨Fr.refl _ _, by simp, by simp, List.Pairwise.nil⟩
theorem EF.below {w W : World} {rs : List Res} (h : EF [] w W rs) : Below w.heap.size w W := ⟨h.fr.os, h.fr.tape, h.fr.output, h.fr.size, fun k hk => h.fr.block k hk (by simp)⟩
theorem EF.swapI {F : List Nat} {w A B : World} {qv : Value} {ql : List Int} {rs : List Res} (h : EF F w A (resI nilV [] :: rs)) (hb : Below A.heap.size A B) (hq : Ints A.heap.size B qv ql) : EF F w B (resI qv ql :: rs) :=
  h.drop.add (resI qv ql) hb (own_base hq (Nat.zero_le _)) (fun x hx => (World.ownsRow.lt hq x (by simpa [resW] using hx)).1)
theorem joint_leave {w X : World} {D A : Nat} {rs : List Res} {x : Int} (hE : EF [] w X (resC (A + 2) #[.int .i64 x] 3 :: rs)) (hs : ∀ r ∈ rs, Solid r) (hK : X.heap[D]? = some (.deferred (some []))) (hD : w.heap.size ≤ D) {tmps : Array Value} (ht : tmps[6]?.getD undef = .pointer (some ⟨A + 2, 0, none⟩)) :
    LeavesInM Fence.wide 2 Tryz.prog Tryz.f72 tmps (fun e W' => e = .returned (.int .i64 x) ∧ Below w.heap.size w W') [{ target := .collected D, args := #[] }] .returning X := by
  have hE2 : EF [] w (X.putObj D (.deferred none)) (resC (A + 2) #[.int .i64 x] 3 :: rs) := hE.putL (fun r hr => by
    rcases List.mem_cons.1 hr with rfl | hr
    · exact solid_C _ _ _
    · exact hs r hr) hK rfl hD
  have hc := blk_cell (i := 0) (show (X.putObj D (.deferred none)).heap[A + 2]? = some (.cells #[.int .i64 x] 3 (0, 0)) from hE2.hd) rfl
  refine ⟨by simp, .inl ⟨_, _, rfl, run_takeDeferred hK, ?_⟩⟩
  generalize X.putObj D (.deferred none) = Y at *
  refine ⟨.int .i64 x, ?_, rfl, hE2.below⟩
  simp [results, Tryz.results72, go_sem, ht, hc]
set_option maxRecDepth 100000 in
set_option maxHeartbeats 4000000 in
theorem joint_ok {w : World} {v : Value} {T : List Nd} (h : Trd w v T) (hT : Tab w) (hm : mayB T = true) (i j : Nat) (hi : i < nlv T) (hj : j < nlv T) :
    Calls Tryz.prog 72 #[.agg #[v], .int .i64 (i : Int), .int .i64 (j : Int)] w fun e w' => e = .returned (.int .i64 (jnt T i j)) ∧ Below w.heap.size w w' := by
  have ok := mayB_okn hm (nlv_pos (by omega))
  obtain ⟨g1, g2, g3, g4, g5⟩ := ok.wd.facts
  obtain ⟨va, c, rfl⟩ := h.slice
  obtain ⟨-, hat⟩ := h.at
  obtain ⟨g, o, rfl, hcell⟩ := hat (by omega)
  obtain ⟨NT, hNT⟩ : ∃ NT, NT = T.length := ⟨_, rfl⟩
  obtain ⟨n, hn⟩ : ∃ n, n = nlv T := ⟨_, rfl⟩
  obtain ⟨A, hA⟩ : ∃ A, A = w.heap.size := ⟨_, rfl⟩
  obtain ⟨y, hy⟩ : ∃ y : Nat, y = 2 * i := ⟨_, rfl⟩
  obtain ⟨z, hz⟩ : ∃ z : Nat, z = 2 * j := ⟨_, rfl⟩
  obtain ⟨w0, hw0⟩ : ∃ w0, w0 = ((w.alloc (.cells #[.slice (some ⟨g, o, none⟩) NT c] 44)).alloc (.cells #[.int .i64 (j : Int)] 3)).alloc (.cells #[.int .i64 0] 3) := ⟨_, rfl⟩
  have e0 : EF [] w w0 [resC (A + 2) #[.int .i64 0] 3, resC (A + 1) #[.int .i64 (j : Int)] 3, resC A #[.slice (some ⟨g, o, none⟩) NT c] 44] := by
    have := (((EF.none w).newC #[.slice (some ⟨g, o, none⟩) NT c] 44).newC #[.int .i64 (j : Int)] 3).newC #[.int .i64 0] 3
    simp only [World.size_alloc] at this
    rw [hw0, hA]
    exact this
  obtain ⟨RV, hRV⟩ : ∃ RV, RV = jnt T i j := ⟨_, rfl⟩
  rw [← hNT] at h ⊢
  rw [← hRV]
  have KSz := size_any (h.bw e0.below) (hT.bw e0.below)
  rw [if_pos hm, ← hn] at KSz
  have HK := hide KSz
  have HW := hide (And.intro hw0 hA)
  have c0 := blk_cell (i := 0) (show w0.heap[A]? = some (.cells #[.slice (some ⟨g, o, none⟩) NT c] 44 (0, 0)) from e0.nth 2 rfl) rfl
  have q1 : (i : Int) < (n : Int) := by omega
  have q2 : (j : Int) < (n : Int) := by omega
  have q3 : (n : Int) ≤ 8 := by omega
  have q5 : decide ((i : Int) < 0) = false := decide_eq_false (by omega)
  have q6 : decide ((j : Int) < 0) = false := decide_eq_false (by omega)
  have q8 : decide (n ≤ i) = false := decide_eq_false (by omega)
  have q9 : decide (n ≤ j) = false := decide_eq_false (by omega)
  have q7 : IntKind.i64.wrap (2 * (j : Int)) = (z : Int) := by rw [IntKind.wrap_i64]; omega
  have q4 : IntKind.i64.wrap (2 * (i : Int)) = (y : Int) := by rw [IntKind.wrap_i64]; omega
  have HE0 := hide e0
  have HF := hide (And.intro h (And.intro hT (And.intro hm (And.intro hi (And.intro hj (And.intro g2 (And.intro hNT (And.intro hn (And.intro hy (And.intro hz (And.intro hRV hcell)))))))))))
  clear h hT hm hi hj ok g1 g2 g3 g4 g5 hat hcell hNT hn hA hy hz hw0 e0 KSz hRV
  refine (callsIn_wide (n := 2)).1 (callsIn_of_wp_marks Tryz.func72 rfl trivial ?_ rfl)
  simp only [Tryz.ntmps72, List.size_toArray, List.length_cons, List.length_nil, Nat.reduceAdd, Nat.reduceSub, Array.replicate_succ, Array.replicate_zero, List.push_toArray, List.append_toArray, List.nil_append, List.cons_append]
  refine wpIn_wide.2 ?_
  go_upto_region 1 with fail
  rw [← (unhide HW).2, show A + 1 + 1 = A + 2 from rfl]
  rw [← (unhide HW).1]
  clear HW
  go_wp2_with fail
  refine (unhide HK).mono ?_
  rintro e w1 ⟨rfl, b1⟩
  have e1 := (unhide HE0).new b1
  have c1 := blk_cell (i := 0) (show w1.heap[A]? = some (.cells #[.slice (some ⟨g, o, none⟩) NT c] 44 (0, 0)) from e1.nth 2 rfl) rfl
  have c2 := blk_cell (i := 0) (show w1.heap[A + 1]? = some (.cells #[.int .i64 (j : Int)] 3 (0, 0)) from e1.nth 1 rfl) rfl
  have HE1 := hide e1
  clear HK HE0 b1 e1 c0
  go_wp2_with fail
  refine (above_any _ _ _).mono ?_
  rintro e w2 ⟨rfl, hw2⟩
  have e2 := ((unhide HE1).newC #[.slice (some ⟨g, o, none⟩) NT c] 44).newC #[.int .i64 (y : Int)] 3
  simp only [World.size_alloc] at e2
  rw [← hw2] at e2
  obtain ⟨tb, htb⟩ : ∃ tb, tb = w1.heap.size := ⟨_, rfl⟩
  rw [← htb] at e2
  have hA1 : w.heap.size ≤ w1.heap.size := (unhide HE1).fr.size
  have hs2 : w2.heap.size = tb + 2 := by rw [hw2, htb]; simp
  obtain ⟨h, hT, hm, hi, hj, g2, hNT, hn, hy, hz, hRV, hcell⟩ := unhide HF
  have hK2 : KA (tb + 1) tb (y : Int) g o NT c T w2 := ⟨e2.nth 0 rfl, e2.nth 1 rfl, fun x hx => by
    obtain ⟨u, hc, _⟩ := hcell w2 e2.below x hx
    exact hc.c0⟩
  have HSQ : Hid (SeqN Tryz.prog 91 #[.pointer (some ⟨tb + 1, 0, none⟩), .pointer (some ⟨tb, 0, none⟩)] (ov T (y : Int)).length (encA (ov T (y : Int))) (KA (tb + 1) tb (y : Int) g o NT c T) w2) := by
    have h2 := h.bw e2.below
    rw [hNT] at h2 hK2 ⊢
    exact seqA_any y (tb + 1) tb h2 (hT.bw e2.below) hm (by omega) hK2
  have hgl : g < w.heap.size := by
    obtain ⟨u, hc, _⟩ := hcell w (Below.refl _ _) 0 (by omega)
    exact lt_of_cell hc.c0
  have hAt : A + 2 < tb := by have : tb = w1.heap.size := htb; have := lt_of_blk (show w1.heap[A + 2]? = some _ from (unhide HE1).nth 0 rfl); omega
  have HTB : Hid (∀ W, Below w.heap.size w W → Tab W) := fun W hW => hT.bw hW
  have HZ : Hid (RV = ((ov T (y : Int)).find? fun x => wi (z : Int) x).getD (-1)) := by unfold Hid; rw [hRV, hy, hz]; rfl
  have hz14 : z ≤ 14 := by omega
  have hov : Hid (∀ x ∈ ov T (y : Int), 0 ≤ x ∧ x ≤ 14) := fun x hx => by
    have ok := mayB_okn hm (by omega)
    unfold ov ovL at hx
    obtain ⟨m, rfl, hml⟩ := (dir_in ok (x := y) (by omega)).1 x (List.mem_filter.1 hx).1
    have := (mayB_15 hm).1
    exact ⟨by omega, by omega⟩
  clear h hT hm hi hj hNT hn hy hz hcell HF g2 hRV
  obtain ⟨OV, hOV⟩ : ∃ OV, OV = ov T (y : Int) := ⟨_, rfl⟩
  rw [← hOV] at HSQ HZ hov
  obtain ⟨RS, hRS⟩ : ∃ RS : Int → List Res, RS = fun x => [resC (A + 2) #[.int .i64 x] 3, resC (A + 1) #[.int .i64 (j : Int)] 3, resC A #[.slice (some ⟨g, o, none⟩) NT c] 44, resC tb #[.slice (some ⟨g, o, none⟩) NT c] 44, resC (tb + 1) #[.int .i64 (y : Int)] 3] := ⟨_, rfl⟩
  have hsol : ∀ qv ql x, ∀ r ∈ resI qv ql :: RS x, Solid r := fun qv ql x r hr => by
    rw [hRS] at hr
    simp only [List.mem_cons, List.not_mem_nil, or_false] at hr
    rcases hr with rfl | rfl | rfl | rfl | rfl | rfl
    · exact solid_W _ _ _ _ _
    all_goals exact solid_C _ _ _
  have eI : EF [] w w2 (resI nilV [] :: RS 0) := by
    rw [hRS]
    exact ((((e2.up 1 rfl).up 4 rfl).up 4 rfl).up 4 rfl).nilW 3 1
  have hbD : ∀ D, w2.heap.size ≤ D → w.heap.size ≤ D := fun D hD => by omega
  have HK0 : Hid (∀ (A' : World) (b : Nat) (o' : Obj), w2.heap.size ≤ b → KA (tb + 1) tb (y : Int) g o NT c T A' → KA (tb + 1) tb (y : Int) g o NT c T (A'.putObj b o')) := fun A' b o' hb hk =>
    ⟨(World.putObj_heap_other (by omega)).trans hk.1, (World.putObj_heap_other (by omega)).trans hk.2.1, fun x hx => by rw [World.cell?_of_block (w := A') (World.putObj_heap_other (by simp only; omega))]; exact hk.2.2 x hx⟩
  have HI0 := hide (And.intro eI hK2)
  clear HE1 e2 eI hK2 c1 c2 hOV
  go_wp2_with fail
  rw [← hw2, ← htb]
  have HS2 := hide hs2
  clear hw2 htb hs2 hA1
  refine range_own (unhide HSQ) rfl (enters_of Tryz.func91 (by kernel_rfl) rfl) (fun _ => rfl)
    (fun k qv ql X => EF [] w X (resI qv ql :: RS 0) ∧ ∀ m, m < k → wi (z : Int) (nthI OV m) = false)
    (fun k X => wi (z : Int) (nthI OV k) = true ∧ (∀ m, m < k → wi (z : Int) (nthI OV m) = false) ∧ EF [] w X (RS (nthI OV k)))
    (fun k qv ql A B hi hb => ⟨hi.1.new hb, hi.2⟩)
    (fun k qv ql A B hi hb hq => ⟨hi.1.swapI hb hq, hi.2⟩)
    (fun k qv ql A hi => hi.1.hd)
    (fun k qv ql A b o o' hb hi hA ho => ⟨hi.1.putL (hsol _ _ _) hA ho (hbD b hb), hi.2⟩)
    (fun k A b o o' hb hi hA ho => ⟨hi.1, hi.2.1, hi.2.2.putL (fun r hr => hsol nilV [] _ r (List.mem_cons_of_mem _ hr)) hA ho (hbD b hb)⟩)
    (fun A b o o' hb hi hA ho => unhide HK0 A b o' hb hi)
    ⟨(unhide HI0).1, fun m hm => by omega⟩
    (fun k => { tmps := #[.agg #[.slice (some ⟨g, o, none⟩) NT c], .int .i64 (i : Int), .int .i64 (j : Int), .pointer (some ⟨A, 0, none⟩), undef, .pointer (some ⟨A + 1, 0, none⟩), .pointer (some ⟨A + 2, 0, none⟩), .int .i64 (n : Int), .int .i64 (nthI OV k), .agg #[.slice (some ⟨g, o, none⟩) NT c], .int .i64 (n : Int), .int .i64 (i : Int), .bool false, .bool false, .int .i64 (i : Int), .int .i64 (n : Int), .bool false, .bool false, .bool false, .int .i64 (j : Int), .bool false, .bool false, .bool false, .int .i64 (j : Int), .int .i64 (n : Int), .bool false, .bool false, .agg #[.slice (some ⟨g, o, none⟩) NT c], .int .i64 (i : Int), .int .i64 (y : Int), .func (.func 91) #[] #[.pointer (some ⟨tb + 1, 0, none⟩), .pointer (some ⟨tb, 0, none⟩)], .int .i64 (nthI OV k), undef, undef, undef, undef, undef], defers := [] })
    ?assign ?body ?done ?stop
  case assign =>
    intro l k X K hK
    unfold encA
    gi_wp2
    exact hK
  case body =>
    rintro D l k qv ql X r hD rfl hk ⟨hE, h0⟩ hK hl hDd
    have EL := hE.addL (hsol _ _ _) hDd hl rfl rfl (hbD _ hD) (by have := hbD _ hD; omega)
    have hx := unhide hov (nthI OV k) (by rw [nthI, List.getD_eq_getElem?_getD, List.getElem?_eq_getElem hk]; exact List.getElem_mem hk)
    obtain ⟨Y, hY⟩ : ∃ Y, Y = nthI OV k := ⟨_, rfl⟩
    rw [← hY] at hx ⊢
    have KW := hide (within_any (z : Int) Y X (by omega) (by omega) (unhide HTB X EL.below))
    have c1 := blk_cell (i := 0) (show X.heap[A + 1]? = some (.cells #[.int .i64 (j : Int)] 3 (0, 0)) by have := EL; rw [hRS] at this; exact this.nth 3 rfl) rfl
    have HB := hide (And.intro EL (And.intro h0 (And.intro hK (And.intro hl (And.intro hDd (And.intro hY hD))))))
    clear hE h0 hK hl hDd EL hY hk hx
    gi_wp2
    refine ⟨trivial, rfl, ?_⟩
    refine (CallsIn.inRound _ (callsIn_wide.2 (unhide KW))).mono ?_
    rintro e X1 ⟨rfl, b1⟩
    obtain ⟨EL, h0, hK, hl, hDd, hY, hD⟩ := unhide HB
    have E1 := EL.new b1
    have L1 : X1.heap[D]? = some (.deferred (some [])) ∧ X1.heap[D + 1]? = some (.loop r) := E1.hd
    have hK1 := hK.bw b1
    cases hw : wi (z : Int) Y
    · have HP : Hid (∀ a, postN (fun k qv ql X => EF [] w X (resI qv ql :: RS 0) ∧ ∀ m, m < k → wi (z : Int) (nthI OV m) = false) (fun k X => wi (z : Int) (nthI OV k) = true ∧ (∀ m, m < k → wi (z : Int) (nthI OV m) = false) ∧ EF [] w X (RS (nthI OV k))) (KA (tb + 1) tb (y : Int) g o NT c T) D (D + 1) k qv ql X .normal a X1) := fun a =>
        ⟨L1.2.trans hl.symm, L1.1.trans hDd.symm, hK1, E1.drop, fun m hm => by
          by_cases q : m = k
          · subst q; rw [← hY]; exact hw
          · exact h0 m (by omega)⟩
      clear EL h0 hK hl hDd hY E1 L1 hK1 b1 hw HB KW
      gi_wp2
      exact unhide HP _
    · have E2 : EF [] w (X1.setCell ⟨A + 2, 0, none⟩ (.int .i64 Y)) (resL D (D + 1) (.deferred (some [])) (.loop r) :: resI qv ql :: RS Y) := by
        rw [hRS] at E1 ⊢
        exact ((((E1.up 2 rfl).poke (i := 0) (.int .i64 Y)).up 1 rfl).up 2 rfl |> fun q => (q.up 1 rfl))
      have b2 : X1.heap[A + 2]? = some (.cells #[.int .i64 0] 3 (0, 0)) := by rw [hRS] at E1; exact E1.nth 2 rfl
      have cc := blk_cell (i := 0) b2 rfl
      have cf := blk_froz (i := 0) b2
      have L2 : (X1.setCell ⟨A + 2, 0, none⟩ (.int .i64 Y)).heap[D]? = some (.deferred (some [])) ∧ (X1.setCell ⟨A + 2, 0, none⟩ (.int .i64 Y)).heap[D + 1]? = some (.loop r) := E2.hd
      have HP : Hid (∀ a, postN (fun k qv ql X => EF [] w X (resI qv ql :: RS 0) ∧ ∀ m, m < k → wi (z : Int) (nthI OV m) = false) (fun k X => wi (z : Int) (nthI OV k) = true ∧ (∀ m, m < k → wi (z : Int) (nthI OV m) = false) ∧ EF [] w X (RS (nthI OV k))) (KA (tb + 1) tb (y : Int) g o NT c T) D (D + 1) k qv ql X .ret a (X1.setCell ⟨A + 2, 0, none⟩ (.int .i64 Y))) := fun a =>
        ⟨L2.2.trans hl.symm, L2.1.trans hDd.symm, by rw [← hY]; exact hw, h0, by rw [← hY]; exact E2.drop.drop⟩
      clear EL h0 hK hl hDd hY E1 L1 hK1 b1 hw HB KW E2 L2 b2
      gi_wp2
      exact unhide HP _
  case done =>
    rintro D qv ql X hD ⟨hE, h0⟩ hK
    have hR : RV = -1 := by
      rw [unhide HZ]
      have : OV.find? (fun x => wi (z : Int) x) = none := by
        rw [List.find?_eq_none]
        intro x hx
        obtain ⟨m, hm⟩ := List.mem_iff_getElem?.1 hx
        have := h0 m (List.getElem?_eq_some_iff.1 hm).1
        rw [nthI, getD_of hm] at this
        simp [this]
      rw [this]; rfl
    have E1 : EF [] w X (RS 0) := hE.drop
    have E2 : EF [] w (X.setCell ⟨A + 2, 0, none⟩ (.int .i64 (-1))) (RS (-1)) := by
      rw [hRS] at E1 ⊢
      exact E1.poke (i := 0) (.int .i64 (-1))
    have b2 : X.heap[A + 2]? = some (.cells #[.int .i64 0] 3 (0, 0)) := by rw [hRS] at E1; exact E1.hd
    have cc := blk_cell (i := 0) b2 rfl
    have cf := blk_froz (i := 0) b2
    have hKs : (X.setCell ⟨A + 2, 0, none⟩ (.int .i64 (-1))).heap[D]? = some (.deferred (some [])) := by
      rw [Below.heap_setCell _ _ _ _ (by simp only; have := unhide HS2; omega)]; exact hK
    have HL : Hid (∀ (tmps : Array Value), tmps[6]?.getD undef = .pointer (some ⟨A + 2, 0, none⟩) → LeavesInM Fence.wide 2 Tryz.prog Tryz.f72 tmps (fun e W' => e = .returned (.int .i64 RV) ∧ Below w.heap.size w W') [{ target := .collected D, args := #[] }] .returning (X.setCell ⟨A + 2, 0, none⟩ (.int .i64 (-1)))) := fun tmps ht => by
      rw [hR]
      rw [hRS] at E2
      exact joint_leave E2 (fun r hr => hsol nilV [] 0 r (List.mem_cons_of_mem _ (by rw [hRS]; exact List.mem_cons_of_mem _ hr))) hKs (hbD D hD) ht
    clear hE h0 hK hR E1 E2 b2 hKs
    go_wp2_with fail
    exact unhide HL _ rfl
  case stop =>
    rintro D k X hD hk ⟨h1, h0, hE⟩ hK
    have hR : RV = nthI OV k := by
      rw [unhide HZ]
      have hat : OV[k]? = some (nthI OV k) := by rw [nthI, List.getD_eq_getElem?_getD, List.getElem?_eq_getElem hk]; rfl
      have : OV.find? (fun x => wi (z : Int) x) = some (nthI OV k) := by
        rw [List.find?_eq_some_iff_getElem]
        refine ⟨h1, k, hk, by rw [List.getElem?_eq_getElem hk] at hat; simpa using hat, fun m hm => ?_⟩
        have := h0 m hm
        rw [nthI, List.getD_eq_getElem?_getD, List.getElem?_eq_getElem (by omega)] at this
        simpa using this
      rw [this]; rfl
    refine (wpIn_wide (n := 2)).2 ?_
    have HL : Hid (∀ (tmps : Array Value), tmps[6]?.getD undef = .pointer (some ⟨A + 2, 0, none⟩) → LeavesInM Fence.wide 2 Tryz.prog Tryz.f72 tmps (fun e W' => e = .returned (.int .i64 RV) ∧ Below w.heap.size w W') [{ target := .collected D, args := #[] }] .returning X) := fun tmps ht => by
      rw [hR]
      rw [hRS] at hE
      exact joint_leave hE (fun r hr => hsol nilV [] 0 r (List.mem_cons_of_mem _ (by rw [hRS]; exact List.mem_cons_of_mem _ hr))) hK (hbD D hD) ht
    clear hE h1 h0 hR
    go_wp2_with fail
    exact unhide HL _ rfl
set_option maxRecDepth 100000 in
set_option maxHeartbeats 4000000 in
theorem joint_no {w : World} {v : Value} {T : List Nd} (h : Trd w v T) (hT : Tab w) (i j : Int) (hn : ¬ (mayB T = true ∧ 0 ≤ i ∧ i < (nlv T : Nat) ∧ 0 ≤ j ∧ j < (nlv T : Nat))) :
    Calls Tryz.prog 72 #[.agg #[v], .int .i64 i, .int .i64 j] w fun e w' => e = .returned (.int .i64 (-1)) ∧ Below w.heap.size w w' := by
  obtain ⟨va, c, rfl⟩ := h.slice
  obtain ⟨NT, hNT⟩ : ∃ NT, NT = T.length := ⟨_, rfl⟩
  obtain ⟨A, hA⟩ : ∃ A, A = w.heap.size := ⟨_, rfl⟩
  obtain ⟨w0, hw0⟩ : ∃ w0, w0 = ((w.alloc (.cells #[.slice va NT c] 44)).alloc (.cells #[.int .i64 j] 3)).alloc (.cells #[.int .i64 0] 3) := ⟨_, rfl⟩
  have e0 : EF [] w w0 [resC (A + 2) #[.int .i64 0] 3, resC (A + 1) #[.int .i64 j] 3, resC A #[.slice va NT c] 44] := by
    have := (((EF.none w).newC #[.slice va NT c] 44).newC #[.int .i64 j] 3).newC #[.int .i64 0] 3
    simp only [World.size_alloc] at this
    rw [hw0, hA]
    exact this
  rw [← hNT] at h ⊢
  have KSz := size_any (h.bw e0.below) (hT.bw e0.below)
  obtain ⟨n, hn0⟩ : ∃ n : Int, n = if mayB T = true then ((nlv T : Nat) : Int) else 0 := ⟨_, rfl⟩
  rw [← hn0] at KSz
  have hq : i < 0 ∨ (0 ≤ i ∧ n ≤ i) ∨ (0 ≤ i ∧ i < n ∧ j < 0) ∨ (0 ≤ i ∧ i < n ∧ 0 ≤ j ∧ n ≤ j) := by
    cases hm : mayB T
    · rw [hm] at hn0; simp at hn0; omega
    · rw [hm] at hn0 hn; simp at hn0 hn; omega
  have HK := hide KSz
  have HW := hide (And.intro hw0 hA)
  have c0 := blk_cell (i := 0) (show w0.heap[A]? = some (.cells #[.slice va NT c] 44 (0, 0)) from e0.nth 2 rfl) rfl
  have HE0 := hide e0
  clear h hT hn hNT hA hw0 e0 KSz hn0
  refine (callsIn_wide (n := 2)).1 (callsIn_of_wp_marks Tryz.func72 rfl trivial ?_ rfl)
  simp only [Tryz.ntmps72, List.size_toArray, List.length_cons, List.length_nil, Nat.reduceAdd, Nat.reduceSub, Array.replicate_succ, Array.replicate_zero, List.push_toArray, List.append_toArray, List.nil_append, List.cons_append]
  refine wpIn_wide.2 ?_
  go_upto_region 1 with fail
  rw [← (unhide HW).2, show A + 1 + 1 = A + 2 from rfl]
  rw [← (unhide HW).1]
  clear HW
  go_wp2_with fail
  refine (unhide HK).mono ?_
  rintro e w1 ⟨rfl, b1⟩
  have e1 := (unhide HE0).new b1
  have c1 := blk_cell (i := 0) (show w1.heap[A + 1]? = some (.cells #[.int .i64 j] 3 (0, 0)) from e1.nth 1 rfl) rfl
  have b2 : w1.heap[A + 2]? = some (.cells #[.int .i64 0] 3 (0, 0)) := e1.hd
  have c2 := blk_cell (i := 0) b2 rfl
  have c3 := blk_froz (i := 0) b2
  have e2 := e1.poke (i := 0) (.int .i64 (-1))
  obtain ⟨V, hV⟩ : ∃ V, V = w1.setCell ⟨A + 2, 0, none⟩ (.int .i64 (-1)) := ⟨_, rfl⟩
  rw [← hV] at e2
  have c4 := blk_cell (i := 0) (show V.heap[A + 2]? = some (.cells #[.int .i64 (-1)] 3 (0, 0)) from e2.hd) rfl
  have HE := hide e2.below
  have HV := hide hV
  clear HK HE0 b1 e1 c0 b2 e2 hV
  rcases hq with q | ⟨q1, q2⟩ | ⟨q1, q2, q3⟩ | ⟨q1, q2, q3, q4⟩
  all_goals
    go_wp2_with fail
    rw [← unhide HV]
    exact ⟨.int .i64 (-1), by simp [results, Tryz.results72, go_sem, c4], rfl, unhide HE⟩
theorem joint_any {w : World} {v : Value} {T : List Nd} (h : Trd w v T) (hT : Tab w) (i j : Int) :
    Calls Tryz.prog 72 #[.agg #[v], .int .i64 i, .int .i64 j] w fun e w' => e = .returned (.int .i64 (jntE T i j)) ∧ Below w.heap.size w w' := by
  by_cases q : mayB T = true ∧ 0 ≤ i ∧ i < (nlv T : Nat) ∧ 0 ≤ j ∧ j < (nlv T : Nat)
  · obtain ⟨m, rfl⟩ : ∃ m : Nat, i = (m : Int) := ⟨i.toNat, by omega⟩
    obtain ⟨k, rfl⟩ : ∃ k : Nat, j = (k : Int) := ⟨j.toNat, by omega⟩
    have := joint_ok h hT q.1 m k (by omega) (by omega)
    unfold jntE
    rw [if_pos q]
    simpa using this
  · unfold jntE
    rw [if_neg q]
    exact joint_no h hT i j q
end Go.Proofs.YtpcpcgagiapinaaGreatDoor.Tn.Pa

/- The contract of the closure of path.Above: one node more. -/
namespace Go.Proofs.YtpcpcgagiapinaaGreatDoor.Tn.Pa
open Go.RowKit Go.Maps
def pubAt (T : List Nd) (x : Int) : Int := (ndAt T x.toNat).pub
def stpB (L : List Tm) (T : List Nd) (node secret last x : Int) : Bool := if x = node then decide (orgS L (pubAt T x) = secret) else folB L (orgS L (pubAt T x)) last
def stpR (b : Nat) (sv : Value) (mb : Nat) (L : List Tm) (sb tb nb cb : Nat) (v : Value) (node secret : Int) : List Res :=
  [resS b sv mb L, resC sb #[.pointer (some ⟨b, 0, none⟩)] 23, resC tb #[v] 44, resC nb #[.int .i64 node] 3, resC cb #[.int .i64 secret] 3]
def stpK (lb la : Nat) (lv : Value) (ks : List (Int × Int)) (last : Int) (rest : List Res) : List Res :=
  resC lb #[lv] 47 :: resW 71 2 lv ks.length (kysC ks) :: resC la #[.int .i64 last] 3 :: rest
set_option maxRecDepth 100000 in
set_option maxHeartbeats 4000000 in
theorem step_any {F : List Nat} {w W : World} {b : Nat} {sv : Value} {mb : Nat} {L : List Tm} {sb tb nb cb lb la : Nat} {g o NT c : Nat} {T : List Nd} {node secret last : Int} {lv : Value} {ks : List (Int × Int)} {rest : List Res} (x : Nat)
    (h : EF F w W (stpK lb la lv ks last (stpR b sv mb L sb tb nb cb (.slice (some ⟨g, o, none⟩) NT c) node secret ++ rest))) (hNT : NT = T.length) (hc : ∀ V, Fr F w V → ∀ y, y < T.length → V.cell? ⟨g, o + y * 4, none⟩ = some (.int .i64 (ndAt T y).pub)) (hx : x < T.length) (hl : i64b last) (hk : ks.length ≤ 100) (hN15 : NT ≤ 15) :
    Calls Tryz.prog 48 #[.int .i64 (x : Int), .pointer (some ⟨sb, 0, none⟩), .pointer (some ⟨tb, 0, none⟩), .pointer (some ⟨nb, 0, none⟩), .pointer (some ⟨cb, 0, none⟩), .pointer (some ⟨la, 0, none⟩), .pointer (some ⟨lb, 0, none⟩)] W fun e W' =>
      if stpB L T node secret last (x : Int) = true then e = .returned (.int .i64 0) ∧ ∃ lv', EF F w W' (stpK lb la lv' (ks ++ [((x : Int), orgK L (pubAt T (x : Int)))]) (orgS L (pubAt T (x : Int))) (stpR b sv mb L sb tb nb cb (.slice (some ⟨g, o, none⟩) NT c) node secret ++ rest))
      else e = .returned (.int .i64 12) ∧ EF F w W' (stpK lb la lv ks last (stpR b sv mb L sb tb nb cb (.slice (some ⟨g, o, none⟩) NT c) node secret ++ rest)) := by
  obtain ⟨i0, hi, hz0, hz1, hz2⟩ := info_parts infoKey
  have hS : St W b sv mb L := h.nth 3 rfl
  have hpe : pubAt T (x : Int) = (ndAt T x).pub := by unfold pubAt; simp
  obtain ⟨P, hP⟩ : ∃ P, P = (ndAt T x).pub := ⟨_, rfl⟩
  rw [hpe, ← hP]
  obtain ⟨ok, hok⟩ : ∃ ok, ok = stpB L T node secret last (x : Int) := ⟨_, rfl⟩
  rw [← hok]
  have HC : Hid (∀ V, EF F w V (stpK lb la lv ks last (stpR b sv mb L sb tb nb cb (.slice (some ⟨g, o, none⟩) NT c) node secret ++ rest)) → (V.cell? ⟨sb, 0, none⟩ = some (.pointer (some ⟨b, 0, none⟩)) ∧ V.cell? ⟨tb, 0, none⟩ = some (.slice (some ⟨g, o, none⟩) NT c) ∧ V.cell? ⟨g, o + x * 4, none⟩ = some (.int .i64 P)) ∧ V.cell? ⟨nb, 0, none⟩ = some (.int .i64 node) ∧ V.cell? ⟨cb, 0, none⟩ = some (.int .i64 secret) ∧ V.cell? ⟨la, 0, none⟩ = some (.int .i64 last) ∧ V.cell? ⟨lb, 0, none⟩ = some lv) := fun V hV => by
    have r1 := hV.nth 0 rfl
    have r2 := hV.nth 2 rfl
    have r3 := hV.nth 4 rfl
    have r4 := hV.nth 5 rfl
    have r5 := hV.nth 6 rfl
    have r6 := hV.nth 7 rfl
    exact ⟨⟨blk_cell (i := 0) r3 rfl, blk_cell (i := 0) r4 rfl, by rw [hP]; exact hc V hV.fr x hx⟩, blk_cell (i := 0) r5 rfl, blk_cell (i := 0) r6 rfl, blk_cell (i := 0) r2 rfl, blk_cell (i := 0) r1 rfl⟩
  have KO : Hid (∀ V, EF F w V (stpK lb la lv ks last (stpR b sv mb L sb tb nb cb (.slice (some ⟨g, o, none⟩) NT c) node secret ++ rest)) → Calls Tryz.prog 49 #[.pointer (some ⟨b, 0, none⟩), .int .i64 P] V fun e V' => e = .returned (.tuple #[.int .i64 (orgK L P), .int .i64 (orgS L P)]) ∧ Below V.heap.size V V') := fun V hV => origin_any (show St V b sv mb L from hV.nth 3 rfl) P
  have KFo : Hid (∀ V, EF F w V (stpK lb la lv ks last (stpR b sv mb L sb tb nb cb (.slice (some ⟨g, o, none⟩) NT c) node secret ++ rest)) → Calls Tryz.prog 50 #[.pointer (some ⟨b, 0, none⟩), .int .i64 (orgS L P), .int .i64 last] V fun e V' => e = .returned (.bool (folB L (orgS L P) last)) ∧ Below V.heap.size V V') := fun V hV => follows_any (show St V b sv mb L from hV.nth 3 rfl) _ last hl
  have HOK : Hid (ok = if (x : Int) = node then decide (orgS L P = secret) else folB L (orgS L P) last) := by unfold Hid; rw [hok]; unfold stpB; rw [hpe, ← hP]
  have HFIN : Hid (∀ (V : World) (lv' : Value) (key own : Int), EF F w V (stpK lb la lv' (ks ++ [((x : Int), key)]) own (stpR b sv mb L sb tb nb cb (.slice (some ⟨g, o, none⟩) NT c) node secret ++ rest)) → EF F w V (stpK lb la lv' (ks ++ [((x : Int), key)]) own (stpR b sv mb L sb tb nb cb (.slice (some ⟨g, o, none⟩) NT c) node secret ++ rest))) := fun _ _ _ _ q => q
  have hD := h.new (bw_drewA W)
  have S0 := (unhide HC W h).1
  have S1 := (unhide HC W.drew hD).1
  have q1 : (x : Int) < (NT : Int) := by omega
  have q2 : (NT : Int) ≤ 15 := by omega
  have HD := hide hD
  have hm1 : ks.length + 1 ≤ maxLen := by unfold maxLen; omega
  have hm2 : (ks.length + 1) * 16 ≤ 140737488355328 := by omega
  have HM := hide (And.intro hm1 hm2)
  clear h hS hpe hP hok hc hx hl hk hN15 hD hNT hm1 hm2
  generalize orgK L P = key at *
  generalize orgS L P = own at *
  generalize folB L own last = fb at *
  go_enter Tryz.func48, Tryz.ntmps48
  go_upto_region 1 with fail
  go_region_held3 (fun w' : World => w'.cell? ⟨sb, 0, none⟩ = some (.pointer (some ⟨b, 0, none⟩)) ∧ w'.cell? ⟨tb, 0, none⟩ = some (.slice (some ⟨g, o, none⟩) NT c) ∧ w'.cell? ⟨g, o + x * 4, none⟩ = some (.int .i64 P)) (first | with_reducible exact S0 | with_reducible exact S1 | with_reducible exact S2 | go_keep) (first
    | (go_at_call 49; refine (unhide KO _ (unhide HD)).mono ?_; rintro e_ z1 ⟨rfl, b1⟩; have E1 := (unhide HD).new b1; have S2 := (unhide HC z1 E1).1)
    | fail)
  all_goals
    obtain ⟨⟨d1, d2, d3⟩, d4, d5, d6, d7⟩ := unhide HC z1 E1
    have HE1 := hide E1
    clear S0 S1 S2 b1 E1 HD KO
    have hne : ∀ (a b : Int), a ≠ b → (a == b) = false ∧ decide (a = b) = false ∧ (a != b) = true := fun a b q => ⟨by simpa using q, by simpa using q, by simpa using q⟩
    by_cases hn : (x : Int) = node
    · by_cases hs : own = secret
      · have ho : ok = true := by rw [unhide HOK, if_pos hn]; simpa using hs
        subst ho
        subst hs
        subst hn
        have HE := HE1
        rename World => z
        clear HOK KFo hne HE1 HFIN
        go_upto_region 4 with fail
        have hrow : z.ownsRow 0 71 2 lv ks.length (kysC ks) := (unhide HE).nth 1 rfl
        obtain ⟨-, -, -, -, d7⟩ := unhide HC z (unhide HE)
        have hb7 : z.heap[lb]? = some (.cells #[lv] 47 (0, 0)) := (unhide HE).hd
        clear hb7
        go_wp2_with (at_builtin; refine wpList_append_own_at _ rfl (.tmp 42) (.tmp 46) 47 rfl 0 71 i0 (.agg #[.int .i64 0, .int .i64 0]) 2 16 Tryz.underlying47 hi hz0 hz1 hz2 rfl (by decide) lv ks.length (kysC ks) rfl (World.ownsRow.alloc hrow _) ⟨z.heap.size, 0, none⟩ 1 1 [_, _] rfl rfl (cells_new2 _ _ _ _) (one2 _ _) (unhide HM).1 (unhide HM).2 (Nat.zero_le _) ?nx)
        case nx =>
          intro v' w5 hown' hgrow _ hat
          obtain ⟨a5, c5, rfl⟩ := own_slice hown'
          have E5 := ((unhide HE).up 1 rfl).grow hown' hgrow (by simpa using hat)
          have E6 := (E5.up 1 rfl).poke (i := 0) (.slice a5 (ks.length + 1) c5)
          have E7 := ((E6.up 2 rfl).poke (i := 0) (.int .i64 own)).up 1 rfl |> fun q => (q.up 2 rfl).up 1 rfl
          have y1 := blk_cell (i := 0) (show w5.heap[lb]? = some (.cells #[lv] 47 (0, 0)) from E5.nth 1 rfl) rfl
          have y2 := blk_froz (i := 0) (show w5.heap[lb]? = some (.cells #[lv] 47 (0, 0)) from E5.nth 1 rfl)
          have b6 : (w5.setCell ⟨lb, 0, none⟩ (.slice a5 (ks.length + 1) c5)).heap[la]? = some (.cells #[.int .i64 last] 3 (0, 0)) := E6.nth 2 rfl
          have y3 := blk_cell (i := 0) b6 rfl
          have y4 := blk_froz (i := 0) b6
          have HE7 : Hid (EF F w ((w5.setCell ⟨lb, 0, none⟩ (.slice a5 (ks.length + 1) c5)).setCell ⟨la, 0, none⟩ (.int .i64 own)) (stpK lb la (.slice a5 (ks.length + 1) c5) (ks ++ [((x : Int), key)]) own (stpR b sv mb L sb tb nb cb (.slice (some ⟨g, o, none⟩) NT c) (x : Int) own ++ rest))) := by
            unfold Hid stpK
            rw [kysC_snoc, List.length_append]
            exact E7
          clear hown' hgrow hat E5 E6 E7 b6 hrow d7 HE
          go_wp2_with fail
          go_ret
          exact ⟨rfl, _, unhide HE7⟩
      · have ho : ok = false := by rw [unhide HOK, if_pos hn]; simpa using hs
        subst ho
        subst hn
        obtain ⟨z1', z2', z3'⟩ := hne own secret hs
        clear HOK KFo hne HFIN HM hs
        go_wp2_with fail
        go_ret
        exact ⟨rfl, unhide HE1⟩
    · obtain ⟨n1, n2, n3⟩ := hne _ _ hn
      have K2 := hide (unhide KFo z1 (unhide HE1))
      have HOK2 : Hid (ok = fb) := by unfold Hid; rw [unhide HOK, if_neg hn]
      clear HOK KFo hne HFIN
      go_wp2_with fail
      refine (unhide K2).mono ?_
      rintro e z ⟨rfl, b2⟩
      have HE := hide ((unhide HE1).new b2)
      obtain ⟨⟨d1', d2', d3'⟩, d4', d5', d6', d7'⟩ := unhide HC z (unhide HE)
      clear K2 HE1 b2 d1 d2 d3 d4 d5 d6 d7 d1' d2' d3' d4' d5' d6' d7'
      cases fb
      · obtain rfl : ok = false := unhide HOK2
        clear HOK2 HM
        go_wp2_with fail
        go_ret
        exact ⟨rfl, unhide HE⟩
      · obtain rfl : ok = true := unhide HOK2
        clear HOK2
        go_upto_region 4 with fail
        have hrow : z.ownsRow 0 71 2 lv ks.length (kysC ks) := (unhide HE).nth 1 rfl
        obtain ⟨-, -, -, -, d7⟩ := unhide HC z (unhide HE)
        have hb7 : z.heap[lb]? = some (.cells #[lv] 47 (0, 0)) := (unhide HE).hd
        clear hb7
        go_wp2_with (at_builtin; refine wpList_append_own_at _ rfl (.tmp 42) (.tmp 46) 47 rfl 0 71 i0 (.agg #[.int .i64 0, .int .i64 0]) 2 16 Tryz.underlying47 hi hz0 hz1 hz2 rfl (by decide) lv ks.length (kysC ks) rfl (World.ownsRow.alloc hrow _) ⟨z.heap.size, 0, none⟩ 1 1 [_, _] rfl rfl (cells_new2 _ _ _ _) (one2 _ _) (unhide HM).1 (unhide HM).2 (Nat.zero_le _) ?nx)
        case nx =>
          intro v' w5 hown' hgrow _ hat
          obtain ⟨a5, c5, rfl⟩ := own_slice hown'
          have E5 := ((unhide HE).up 1 rfl).grow hown' hgrow (by simpa using hat)
          have E6 := (E5.up 1 rfl).poke (i := 0) (.slice a5 (ks.length + 1) c5)
          have E7 := ((E6.up 2 rfl).poke (i := 0) (.int .i64 own)).up 1 rfl |> fun q => (q.up 2 rfl).up 1 rfl
          have y1 := blk_cell (i := 0) (show w5.heap[lb]? = some (.cells #[lv] 47 (0, 0)) from E5.nth 1 rfl) rfl
          have y2 := blk_froz (i := 0) (show w5.heap[lb]? = some (.cells #[lv] 47 (0, 0)) from E5.nth 1 rfl)
          have b6 : (w5.setCell ⟨lb, 0, none⟩ (.slice a5 (ks.length + 1) c5)).heap[la]? = some (.cells #[.int .i64 last] 3 (0, 0)) := E6.nth 2 rfl
          have y3 := blk_cell (i := 0) b6 rfl
          have y4 := blk_froz (i := 0) b6
          have HE7 : Hid (EF F w ((w5.setCell ⟨lb, 0, none⟩ (.slice a5 (ks.length + 1) c5)).setCell ⟨la, 0, none⟩ (.int .i64 own)) (stpK lb la (.slice a5 (ks.length + 1) c5) (ks ++ [((x : Int), key)]) own (stpR b sv mb L sb tb nb cb (.slice (some ⟨g, o, none⟩) NT c) node secret ++ rest))) := by
            unfold Hid stpK
            rw [kysC_snoc, List.length_append]
            exact E7
          clear hown' hgrow hat E5 E6 E7 b6 hrow d7 HE
          go_wp2_with fail
          go_ret
          exact ⟨rfl, _, unhide HE7⟩
end Go.Proofs.YtpcpcgagiapinaaGreatDoor.Tn.Pa

/- What path.Above finds, plainly; its parts. No walk is in this text. -/
namespace Go.Proofs.YtpcpcgagiapinaaGreatDoor.Tn.Pa
open Go.RowKit Go.Maps
abbrev AbSt := List (Int × Int) × Int
def ab1 (L : List Tm) (T : List Nd) (node secret : Int) (o : Option AbSt) (x : Int) : Option AbSt :=
  o.bind fun st => if stpB L T node secret st.2 x = true then some (st.1 ++ [(x, orgK L (pubAt T x))], orgS L (pubAt T x)) else none
def abF (L : List Tm) (T : List Nd) (node secret : Int) (xs : List Int) : Option AbSt := xs.foldl (ab1 L T node secret) (some ([], secret))
def abR (L : List Tm) (T : List Nd) (node secret : Int) : Option AbSt := abF L T node secret (node :: ov T node)
theorem abF_snoc (L : List Tm) (T : List Nd) (node secret : Int) (xs : List Int) (x : Int) : abF L T node secret (xs ++ [x]) = ab1 L T node secret (abF L T node secret xs) x := by simp [abF]
theorem abF_none (L : List Tm) (T : List Nd) (node secret : Int) (xs ys : List Int) (h : abF L T node secret xs = none) : abF L T node secret (xs ++ ys) = none := by
  unfold abF at h ⊢
  rw [List.foldl_append, h]
  induction ys with
  | nil => rfl
  | cons y ys ih => exact ih
theorem abF_facts {L : List Tm} {T : List Nd} {node secret : Int} (hs : thr L.length secret = true) : ∀ (xs : List Int) (o : Option AbSt) (st0 : AbSt), o = some st0 → thr L.length st0.2 = true → ∀ st, xs.foldl (ab1 L T node secret) o = some st → thr L.length st.2 = true ∧ st.1.map (·.1) = st0.1.map (·.1) ++ xs := by
  intro xs
  induction xs with
  | nil => intro o st0 ho h0 st h; rw [ho] at h; simp at h; subst h; exact ⟨h0, by simp⟩
  | cons x xs ih =>
    intro o st0 ho h0 st h
    rw [List.foldl_cons, ho] at h
    unfold ab1 at h
    simp only [Option.bind_some] at h
    by_cases q : stpB L T node secret st0.2 x = true
    · rw [if_pos q] at h
      have ht : thr L.length (orgS L (pubAt T x)) = true := by
        unfold stpB at q
        split at q
        · have := of_decide_eq_true q; rw [this]; exact hs
        · unfold folB at q; simp only [Bool.and_eq_true] at q; exact q.1
      obtain ⟨r1, r2⟩ := ih _ (st0.1 ++ [(x, orgK L (pubAt T x))], orgS L (pubAt T x)) rfl ht st h
      exact ⟨r1, by rw [r2]; simp⟩
    · rw [if_neg q] at h
      have : xs.foldl (ab1 L T node secret) none = none := by
        clear h ih
        induction xs with
        | nil => rfl
        | cons y ys ih => exact ih
      unfold ab1 at this
      rw [this] at h; cases h
theorem ab_facts {L : List Tm} {T : List Nd} {node secret : Int} (hs : thr L.length secret = true) {xs : List Int} {st : AbSt} (h : abF L T node secret xs = some st) : thr L.length st.2 = true ∧ st.1.map (·.1) = xs := by
  obtain ⟨r1, r2⟩ := abF_facts hs xs _ ([], secret) rfl hs st h
  exact ⟨r1, by simpa using r2⟩
theorem fin_dirN : (sizes.all fun n => (List.range (2 * n - 1)).all fun x => decide (((x : Nat) : Int) :: dir ((x : Nat) : Int) (n : Nat)).Nodup) = true := by decide +kernel
theorem ov_nodup {T : List Nd} (ok : Ok T) {x : Nat} (hx : x < T.length) : ((x : Int) :: ov T (x : Int)).Nodup := by
  obtain ⟨g1, g2, g3, g4, g5⟩ := ok.wd.facts
  have h := List.all_eq_true.1 (List.all_eq_true.1 fin_dirN _ g1) x (List.mem_range.2 (by omega))
  have h := of_decide_eq_true h
  refine List.Sublist.nodup (List.Sublist.cons_cons _ ?_) h
  unfold ov ovL
  exact List.filter_sublist
theorem ov_len {T : List Nd} (ok : Ok T) {x : Nat} (hx : x < T.length) : (ov T (x : Int)).length ≤ 3 := Nat.le_trans (List.length_filter_le _ _) (dir_in ok hx).2
theorem ov_at {T : List Nd} (ok : Ok T) {x : Nat} (hx : x < T.length) : ∀ y ∈ ov T (x : Int), ∃ m : Nat, y = (m : Int) ∧ m < T.length := fun y hy => (dir_in ok hx).1 y (List.mem_filter.1 hy).1
end Go.Proofs.YtpcpcgagiapinaaGreatDoor.Tn.Pa
