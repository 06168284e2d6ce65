/- Settle, whatever comes of it; what is so of whoever does something at all: alive of layer 16. mkRoM.py writes it (out of RoM.part). -/
import Derived.Test.YtgmlkofogeoocaaGreatDoorRoK
import Derived.Test.YtgmlkofogeoocaaGreatDoorRoJ
import Derived.Test.YtgmlkofogeoocaaGreatDoorZ02
namespace Go.Proofs.YtgmlkofogeoocaaGreatDoor
open Go.RowKit Go.Maps
def StlX (B : Nat) (w' : World) (v' : Value) (er : Int) (l : List Bx) (T1 T2 : List Nd) (m : Ml) : Prop :=
  (er = 1 ∧ (mayX l = false ∨ dvB T1 T2 = false) ∧ v' = .slice none 0 0) ∨ (er = 0 ∧ mayP l ∧ dvB T1 T2 = true ∧ ∃ xs', OwL kBx 0 w' v' (stls l m T2 (uni (mems T1) (mems T2))) xs' ∧ ∀ z ∈ zK kBx v' xs', B ≤ z)
set_option maxRecDepth 100000 in
set_option maxHeartbeats 2000000 in
theorem settle_no {w : World} {v v1 v2 : Value} {l : List Bx} {xs : List (Value × List Mx)} {T1 T2 : List Nd} {CS : List Value} (h : RdL kBx w v l xs) (hs : SmX l) (h1 : Trd w v1 T1) (h2 : Trd w v2 T2) (hT : Tab w) (hno : mayX l = false ∨ dvB T1 T2 = false) :
    Calls Tryz.prog 15 #[v, .agg #[v1], .agg #[v2], .agg CS.toArray] w fun e W' => e = .returned (.tuple #[.slice none 0 0, .int .i64 1]) ∧ Below w.heap.size w W' := by
  obtain ⟨a1, c1, hv1⟩ := h1.slice
  obtain ⟨a2, c2, hv2⟩ := h2.slice
  obtain ⟨av, cv, hvv⟩ := rdl_slice h
  generalize l.length = N at hvv
  generalize T1.length = N1 at hv1
  generalize T2.length = N2 at hv2
  subst hv1 hv2 hvv
  obtain ⟨A, hA⟩ : ∃ A, A = w.heap.size := ⟨_, rfl⟩
  obtain ⟨w0, hw0⟩ : ∃ w0, w0 = ((w.alloc (.cells #[.slice a1 N1 c1] 30)).alloc (.cells #[.slice a2 N2 c2] 30)).alloc (.cells CS.toArray 50) := ⟨_, rfl⟩
  have e0 : Env w w0 [rsC (A + 2) CS.toArray 50, rsC (A + 1) #[.slice a2 N2 c2] 30, rsC A #[.slice a1 N1 c1] 30] := by
    have := (((Env.nil w).newC #[.slice a1 N1 c1] 30).newC #[.slice a2 N2 c2] 30).newC CS.toArray 50
    simp only [World.size_alloc] at this
    rw [hw0, hA]
    exact this
  have KC := poCheck_any (h.bw e0.bel) hs.n
  have HKD : Hid (∀ W, Below w.heap.size w W → Calls Tryz.prog 27 #[.agg #[.slice a1 N1 c1], .agg #[.slice a2 N2 c2]] W fun e w' => e = .returned (.bool (dvB T1 T2)) ∧ Below W.heap.size W w') := fun W hW => ofdev_any (h1.bw hW) (h2.bw hW) (hT.bw hW)
  have HW := hide (And.intro hw0 hA)
  have HE0 := hide e0
  cases q : mayX l
  · rw [q] at KC
    have HKC : Hid (Calls Tryz.prog 16 #[.slice av N cv] w0 fun e w' => e = .returned (.int .i64 1) ∧ Below w0.heap.size w0 w') := KC
    clear h hs h1 h2 hT hno hA hw0 e0 KC HKD q
    refine (callsIn_wide (n := 2)).1 (callsIn_of_wp_marks Tryz.func15 rfl trivial ?_ rfl)
    simp only [Tryz.ntmps15, List.size_toArray, List.length_cons, List.length_nil, Nat.reduceAdd, Nat.reduceSub, Array.replicate_succ, Array.replicate_zero, List.push_toArray, List.append_toArray, List.nil_append, List.cons_append]
    refine wpIn_wide.2 ?_
    go_upto_region 1 with fail
    rw [← (unhide HW).2, show A + 1 + 1 = A + 2 from rfl]
    rw [← (unhide HW).1]
    clear HW
    go_wp2_with fail
    refine (unhide HKC).mono ?_
    rintro e w1 ⟨rfl, b1⟩
    have HB := hide ((unhide HE0).new b1).bel
    clear HKC HE0 b1
    go_wp2_with fail
    exact ⟨.tuple #[.slice none 0 0, .int .i64 1], by simp [results, Tryz.results15, go_sem], rfl, unhide HB⟩
  · have qd : dvB T1 T2 = false := by
      rcases hno with z | z
      · rw [q] at z; cases z
      · exact z
    rw [q] at KC
    rw [qd] at HKD
    have HKC : Hid (Calls Tryz.prog 16 #[.slice av N cv] w0 fun e w' => e = .returned (.int .i64 0) ∧ Below w0.heap.size w0 w') := KC
    clear h hs h1 h2 hT hno hA hw0 e0 KC q qd
    refine (callsIn_wide (n := 2)).1 (callsIn_of_wp_marks Tryz.func15 rfl trivial ?_ rfl)
    simp only [Tryz.ntmps15, List.size_toArray, List.length_cons, List.length_nil, Nat.reduceAdd, Nat.reduceSub, Array.replicate_succ, Array.replicate_zero, List.push_toArray, List.append_toArray, List.nil_append, List.cons_append]
    refine wpIn_wide.2 ?_
    go_upto_region 1 with fail
    rw [← (unhide HW).2, show A + 1 + 1 = A + 2 from rfl]
    rw [← (unhide HW).1]
    clear HW
    go_wp2_with fail
    refine (unhide HKC).mono ?_
    rintro e w1 ⟨rfl, b1⟩
    have e1 := (unhide HE0).new b1
    have y0 := blk_c (i := 0) (show w1.heap[A]? = some (.cells #[.slice a1 N1 c1] 30 (0, 0)) from e1.nthR 2 rfl) rfl
    have y1 := blk_c (i := 0) (show w1.heap[A + 1]? = some (.cells #[.slice a2 N2 c2] 30 (0, 0)) from e1.nthR 1 rfl) rfl
    have HKD1 := hide (unhide HKD w1 e1.bel)
    have HE1 := hide e1
    clear HKC HKD HE0 b1 e1
    go_wp2_with fail
    refine (unhide HKD1).mono ?_
    rintro e w2 ⟨rfl, b2⟩
    have HB := hide ((unhide HE1).new b2).bel
    clear HKD1 HE1 b2 y0 y1
    go_wp2_with fail
    exact ⟨.tuple #[.slice none 0 0, .int .i64 1], by simp [results, Tryz.results15, go_sem], rfl, unhide HB⟩
theorem settle_any {w : World} {v v1 v2 : Value} {l : List Bx} {xs : List (Value × List Mx)} {T1 T2 : List Nd} {m : Ml} {x : Mx} {n0 : Nat} (h : RdL kBx w v l xs) (hsz : SzX n0 l) (hn0 : n0 ≤ 900000) (h1 : Trd w v1 T1) (h2 : Trd w v2 T2) (hT : Tab w) (hm : MlR w m x) (hsm : SmM m) :
    Calls Tryz.prog 15 #[v, .agg #[v1], .agg #[v2], .agg (mlC m x).toArray] w fun e W' => ∃ v' er, e = .returned (.tuple #[v', .int .i64 er]) ∧ Below w.heap.size w W' ∧ StlX w.heap.size W' v' er l T1 T2 m := by
  by_cases hq : mayX l = true ∧ dvB T1 T2 = true
  · have hmy := mayX_iff.1 hq.1
    refine Calls.mono (settle_ok h hsz hn0 h1 h2 hT hm hsm hmy hq.2) ?_
    rintro e W' ⟨v', er, rfl, hb, hr⟩
    exact ⟨v', er, rfl, hb, Or.inr ⟨hr.1, hmy, hq.2, hr.2⟩⟩
  · have hno : mayX l = false ∨ dvB T1 T2 = false := by
      cases q1 : mayX l
      · exact Or.inl rfl
      · cases q2 : dvB T1 T2
        · exact Or.inr rfl
        · exact absurd ⟨q1, q2⟩ hq
    refine Calls.mono (settle_no (CS := mlC m x) h (hsz.sm (by omega)) h1 h2 hT hno) ?_
    rintro e W' ⟨rfl, hb⟩
    exact ⟨_, 1, rfl, hb, Or.inl ⟨rfl, hno, rfl⟩⟩
theorem up_ext : ∀ {a b : List Int}, a.Pairwise (· < ·) → b.Pairwise (· < ·) → (∀ x, x ∈ a ↔ x ∈ b) → a = b
  | [], [], _, _, _ => rfl
  | [], y :: b, _, _, h => by have := (h y).2 (by simp); simp at this
  | x :: a, [], _, _, h => by have := (h x).1 (by simp); simp at this
  | x :: a, y :: b, ha, hb, h => by
    have ha1 := List.pairwise_cons.1 ha
    have hb1 := List.pairwise_cons.1 hb
    have hxy : x = y := by
      rcases List.mem_cons.1 ((h x).1 (by simp)) with q | q
      · exact q
      · rcases List.mem_cons.1 ((h y).2 (by simp)) with r | r
        · exact r.symm
        · have := hb1.1 x q; have := ha1.1 y r; omega
    subst hxy
    rw [up_ext ha1.2 hb1.2 (fun z => ?_)]
    constructor
    · intro hz
      have hne : z ≠ x := fun q => by subst q; have := ha1.1 z hz; omega
      rcases List.mem_cons.1 ((h z).1 (List.mem_cons_of_mem _ hz)) with q | q
      · exact absurd q hne
      · exact q
    · intro hz
      have hne : z ≠ x := fun q => by subst q; have := hb1.1 z hz; omega
      rcases List.mem_cons.1 ((h z).2 (List.mem_cons_of_mem _ hz)) with q | q
      · exact absurd q hne
      · exact q
def lvT : List Nd := [⟨1, 0, 0, []⟩, ⟨0, 0, 0, []⟩, ⟨2, 1, 0, []⟩]
def lvT1 : List Nd := [⟨1, 0, 0, []⟩]
theorem lv_uni0 : uni (mems []) (mems lvT) = [0, 1] := up_ext (uni_up _ _) (by decide) (fun x => by
  rw [uni_mem]
  have e1 : mems lvT = [0, 1] := by decide +kernel
  have e2 : mems [] = [] := by decide +kernel
  rw [e1, e2]
  simp)
theorem lv_uni1 : uni (mems lvT) (mems lvT1) = [0, 1] := up_ext (uni_up _ _) (by decide) (fun x => by
  rw [uni_mem]
  have e1 : mems lvT = [0, 1] := by decide +kernel
  have e2 : mems lvT1 = [0] := by decide +kernel
  rw [e1, e2]
  simp
  omega)
theorem lv_dv0 : dvB [] lvT = true := by
  unfold dvB
  rw [lv_uni0]
  decide +kernel
theorem lv_dv1 : dvB lvT lvT1 = true := by
  unfold dvB
  rw [lv_uni1]
  decide +kernel
theorem lv_trd {w : World} {nb : Nat} (h : w.heap[nb]? = some (.cells #[.int .i64 1, .int .i64 0, .int .i64 0, .slice none 0 0, .int .i64 0, .int .i64 0, .int .i64 0, .slice none 0 0, .int .i64 2, .int .i64 1, .int .i64 0, .slice none 0 0] 57 (0, 0))) : Trd w (.slice (some ⟨nb, 0, none⟩) 3 3) lvT ∧ Trd w (.slice (some ⟨nb, 0, none⟩) 1 3) lvT1 := by
  constructor
  · refine ⟨by simp [lvT], by simp [lvT], Or.inr ⟨nb, 0, 3, rfl, lt_of_blk h, fun i n hi => ?_⟩⟩
    match i, hi with
    | 0, hi => cases hi; exact ⟨.slice none 0 0, ⟨blk_c h rfl, blk_c h rfl, blk_c h rfl, blk_c h rfl⟩, Or.inl ⟨rfl, none, 0, rfl, fun _ => rfl⟩⟩
    | 1, hi => cases hi; exact ⟨.slice none 0 0, ⟨blk_c h rfl, blk_c h rfl, blk_c h rfl, blk_c h rfl⟩, Or.inl ⟨rfl, none, 0, rfl, fun _ => rfl⟩⟩
    | 2, hi => cases hi; exact ⟨.slice none 0 0, ⟨blk_c h rfl, blk_c h rfl, blk_c h rfl, blk_c h rfl⟩, Or.inl ⟨rfl, none, 0, rfl, fun _ => rfl⟩⟩
    | (i + 3), hi => simp [lvT] at hi
  · refine ⟨by simp [lvT1], by simp [lvT1], Or.inr ⟨nb, 0, 3, rfl, lt_of_blk h, fun i n hi => ?_⟩⟩
    match i, hi with
    | 0, hi => cases hi; exact ⟨.slice none 0 0, ⟨blk_c h rfl, blk_c h rfl, blk_c h rfl, blk_c h rfl⟩, Or.inl ⟨rfl, none, 0, rfl, fun _ => rfl⟩⟩
    | (i + 1), hi => simp [lvT1] at hi
def lvL (m : Ml) : List Bx := [⟨0, false, [m], 0⟩, ⟨1, false, [m], 0⟩]
def lvN (m n : Ml) : List Bx := [⟨0, false, [m, n], 0⟩, ⟨1, true, [m, n], 0⟩]
theorem lv_f0 : decide (0 ≤ fnd lvT 0) = true := by decide +kernel
theorem lv_f1 : decide (0 ≤ fnd lvT 1) = true := by decide +kernel
theorem lv_g0 : decide (0 ≤ fnd lvT1 0) = true := by decide +kernel
theorem lv_g1 : decide (0 ≤ fnd lvT1 1) = false := by decide +kernel
theorem lv_st0 (m : Ml) : stls [] m lvT [0, 1] = lvL m := by
  simp only [stls, List.foldl_cons, List.foldl_nil, lv_f0, lv_f1]
  simp [stl, hvL, hasD, opL, mapD, stB, putN, nbx, lvL]
theorem lv_st1 (m n : Ml) : stls (lvL m) n lvT1 [0, 1] = lvN m n := by
  simp only [stls, List.foldl_cons, List.foldl_nil, lv_g0, lv_g1]
  simp [stl, hvL, hasD, mapD, stB, putN, cloN, lvL, lvN]
theorem lv_may (m : Ml) : mayP (lvL m) := mayP_pw.2 ⟨fun b hb => by simp [lvL] at hb; rcases hb with rfl | rfl <;> (unfold okB; simp), by simp [lvL]⟩
theorem lv_mayN (m n : Ml) : mayP (lvN m n) := mayP_pw.2 ⟨fun b hb => by simp [lvN] at hb; rcases hb with rfl | rfl <;> (unfold okB; simp), by simp [lvN]⟩
theorem lv_sz (m : Ml) (hm : SmM m) : SzX 2 (lvL m) := ⟨by simp [lvL], fun b hb => by
  simp [lvL] at hb
  rcases hb with rfl | rfl
  · exact ⟨by simp, fun x hx => by simp at hx; subst hx; exact hm⟩
  · exact ⟨by simp, fun x hx => by simp at hx; subst hx; exact hm⟩⟩
theorem lv_szN (m n : Ml) (hm : SmM m) (hn : SmM n) : SzX 2 (lvN m n) := ⟨by simp [lvN], fun b hb => by
  simp [lvN] at hb
  rcases hb with rfl | rfl
  · exact ⟨by simp, fun x hx => by simp at hx; rcases hx with rfl | rfl; exact hm; exact hn⟩
  · exact ⟨by simp, fun x hx => by simp at hx; rcases hx with rfl | rfl; exact hm; exact hn⟩⟩
theorem lv_dev (m n : Ml) : dvL (lvN m n) 0 = [0] := by simp [dvL, lvN]
theorem owl_two {B : Nat} {w : World} {v : Value} {l : List Bx} {xs : List (Value × List Mx)} (h : OwL kBx B w v l xs) (hl : l.length = 2) : ∃ a c, v = .slice a 2 c := by
  obtain ⟨a, c, hv⟩ := own_slice h.row
  exact ⟨a, c, by rw [hv, hl]⟩
set_option maxRecDepth 100000 in
set_option maxHeartbeats 4000000 in
theorem alive16_any {w : World} (hT : Tab w) : Calls Tryz.prog 11 #[] w fun e w' => e = .returned (.bool true) ∧ Below w.heap.size w w' := by
  have K1 : Hid (∀ W, Calls Tryz.prog 6 #[.int .i64 (-6)] W fun e w' => e = .returned (.tuple #[.int .i64 1, .int .i64 0]) ∧ w' = W) := fun W => roGroupHome_any (-6) W (by decide)
  have K2 : Hid (∀ W, Calls Tryz.prog 7 #[.int .i64 17] W fun e w' => e = .returned (.tuple #[.int .i64 2, .int .i64 0]) ∧ w' = W) := fun W => roUser_any 17 W
  obtain ⟨nb, hnb⟩ : ∃ nb, nb = w.heap.size := ⟨_, rfl⟩
  obtain ⟨w0, hw0⟩ : ∃ w0, w0 = (w.alloc (.cells #[.int .i64 1, .int .i64 0, .int .i64 0, .slice none 0 0, .int .i64 0, .int .i64 0, .int .i64 0, .slice none 0 0, .int .i64 2, .int .i64 1, .int .i64 0, .slice none 0 0] 57)).alloc (.cells #[.slice (some ⟨nb, 0, none⟩) 3 3] 30) := ⟨_, rfl⟩
  have e0 : Env w w0 [rsC (nb + 1) #[.slice (some ⟨nb, 0, none⟩) 3 3] 30, rsC nb #[.int .i64 1, .int .i64 0, .int .i64 0, .slice none 0 0, .int .i64 0, .int .i64 0, .int .i64 0, .slice none 0 0, .int .i64 2, .int .i64 1, .int .i64 0, .slice none 0 0] 57] := by
    have := ((Env.nil w).newC #[.int .i64 1, .int .i64 0, .int .i64 0, .slice none 0 0, .int .i64 0, .int .i64 0, .int .i64 0, .slice none 0 0, .int .i64 2, .int .i64 1, .int .i64 0, .slice none 0 0] 57).newC #[.slice (some ⟨nb, 0, none⟩) 3 3] 30
    simp only [World.size_alloc] at this
    rw [hw0, hnb]
    rw [hnb] at this
    exact this
  have hm1 := lvMl_sm 1 0
  have hm2 := lvMl_sm 0 0
  obtain ⟨M1, hM1⟩ : ∃ m, m = lvMl 1 0 := ⟨_, rfl⟩
  obtain ⟨M2, hM2⟩ : ∃ m, m = lvMl 0 0 := ⟨_, rfl⟩
  rw [← hM1] at hm1
  rw [← hM2] at hm2
  have HS1 : Hid (Calls Tryz.prog 15 #[.slice none 0 0, .agg #[.slice none 0 0], .agg #[.slice (some ⟨nb, 0, none⟩) 3 3], .agg #[.int .u8 1, .int .i64 0, .int .i64 0, .int .i64 0, .int .i64 0, .int .i64 0, .bool false, .slice none 0 0, .slice none 0 0, .slice none 0 0, .slice none 0 0, .int .i64 0, .int .i64 0, .slice none 0 0, .int .i64 0, .int .i64 0, .int .i64 0, .int .i64 0, .int .i64 0, .int .i64 0, .int .i64 0, .int .i64 0, .int .i64 0, .slice none 0 0, .int .i64 0, .int .i64 0, .int .i64 0, .int .i64 0, .int .i64 0, .int .i64 0]] w0 fun e w' => ∃ xa xc, e = .returned (.tuple #[.slice xa 2 xc, .int .i64 0]) ∧ Hid (∃ xs', RdL kBx w' (.slice xa 2 xc) (lvL M1) xs') ∧ Below w0.heap.size w0 w') := by
    have hr : MlR w0 (lvMl 1 0) lvMx := lvMl_r w0 1 0
    have hT2 := (lv_trd (w := w0) (nb := nb) (e0.nthR 1 rfl)).1
    have K := settle_ok (w := w0) (l := []) (xs := []) (n0 := 0) (T1 := []) (v1 := .slice none 0 0) ⟨rfl, by simp, none, 0, rfl, Or.inl rfl⟩ ⟨by simp, by simp⟩ (by omega) (trd_nilM w0) hT2 (hT.bw e0.bel) hr (lvMl_sm 1 0) may0 lv_dv0
    rw [lv_uni0, lv_st0] at K
    refine Calls.mono K ?_
    rintro e w' ⟨v', er, rfl, hb, rfl, xs', ho, _⟩
    obtain ⟨xa, xc, rfl⟩ := owl_two ho rfl
    rw [hM1]
    exact ⟨xa, xc, rfl, ⟨xs', ho.bxs ((lv_sz _ (lvMl_sm 1 0)).sm (by omega)).b⟩, hb⟩
  have HS2 : Hid (∀ (W : World) (xa : Option Addr) (xc : Nat), Below w0.heap.size w0 W → (∃ xs', RdL kBx W (.slice xa 2 xc) (lvL M1) xs') → Calls Tryz.prog 15 #[.slice xa 2 xc, .agg #[.slice (some ⟨nb, 0, none⟩) 3 3], .agg #[.slice (some ⟨nb, 0, none⟩) 1 3], .agg #[.int .u8 0, .int .i64 0, .int .i64 0, .int .i64 0, .int .i64 0, .int .i64 0, .bool false, .slice none 0 0, .slice none 0 0, .slice none 0 0, .slice none 0 0, .int .i64 0, .int .i64 0, .slice none 0 0, .int .i64 0, .int .i64 0, .int .i64 0, .int .i64 0, .int .i64 0, .int .i64 0, .int .i64 0, .int .i64 0, .int .i64 0, .slice none 0 0, .int .i64 0, .int .i64 0, .int .i64 0, .int .i64 0, .int .i64 0, .int .i64 0]] W fun e w' => ∃ xa xc, e = .returned (.tuple #[.slice xa 2 xc, .int .i64 0]) ∧ Hid (∃ xs', RdL kBx w' (.slice xa 2 xc) (lvN M1 M2) xs') ∧ Below W.heap.size W w') := fun W xa xc hW hl => by
    obtain ⟨xs, hl⟩ := hl
    have E := e0.new hW
    have hTT := lv_trd (w := W) (nb := nb) (E.nthR 1 rfl)
    have K := settle_ok (w := W) (n0 := 2) hl (lv_sz M1 hm1) (by omega) hTT.1 hTT.2 (hT.bw E.bel) (lvMl_r W 0 0) (lvMl_sm 0 0) (lv_may M1) lv_dv1
    rw [lv_uni1, lv_st1] at K
    refine Calls.mono K ?_
    rintro e w' ⟨v', er, rfl, hb, rfl, xs', ho, _⟩
    obtain ⟨xa, xc, rfl⟩ := owl_two ho rfl
    rw [hM2]
    exact ⟨xa, xc, rfl, ⟨xs', ho.bxs ((lv_szN _ _ hm1 (lvMl_sm 0 0)).sm (by omega)).b⟩, hb⟩
  have HDv : Hid (∀ (W : World) (xa : Option Addr) (xc : Nat), (∃ xs', RdL kBx W (.slice xa 2 xc) (lvN M1 M2) xs') → Calls Tryz.prog 22 #[.slice xa 2 xc, .int .i64 0] W fun e w' => ∃ ya yc, e = .returned (.tuple #[.slice ya 1 yc, .int .i64 0]) ∧ Hid (Nums w' (.slice ya 1 yc) [0]) ∧ Below W.heap.size W w') := fun W xa xc hl => by
    obtain ⟨xs, hl⟩ := hl
    refine Calls.mono (devices_any hl ((lv_szN M1 M2 hm1 hm2).sm (by omega)) 0) ?_
    rintro e w' ⟨v', er, rfl, hb, ht⟩
    rcases ht with q | ⟨rfl, _, _, hi⟩
    · rw [mayX_iff.2 (lv_mayN M1 M2)] at q
      rcases q.2.1 with c | c
      · exact absurd c (by simp)
      · exact absurd c (by decide)
    · rw [lv_dev] at hi
      obtain ⟨ya, yc, rfl⟩ := own_slice hi
      exact ⟨ya, yc, rfl, Ints.nums hi, hb⟩
  have HSc : Hid (∀ W, Calls Tryz.prog 23 #[.slice none 0 0, .agg #[.int .i64 5, .int .i64 0, .int .i64 1]] W fun e w' => ∃ ca cc, e = .returned (.tuple #[.slice ca 1 cc, .int .i64 0]) ∧ Hid (∃ xs', RdL Cd.kCd w' (.slice ca 1 cc) [⟨5, 0, 1⟩] xs') ∧ Below W.heap.size W w') := fun W => by
    refine Calls.mono (Cd.setcard_any (w := W) (l := []) (xs := []) ⟨rfl, by simp, none, 0, rfl, Or.inl rfl⟩ (by simp) 5 0 1) ?_
    rintro e w' ⟨v', er, rfl, ht, hb⟩
    rcases ht with q | ⟨rfl, _, _, k, xs', q⟩
    · exact absurd ⟨⟨by decide, by decide, by decide, by decide⟩, fun j b hb => by simp at hb⟩ q.2.1
    · rcases q with ⟨hk, _, ho⟩ | ⟨⟨p, hp, _⟩, _⟩
      · obtain rfl : k = 0 := by have := hk.le; simp at this; exact this
        have ho' : OwL Cd.kCd W.heap.size w' v' [⟨5, 0, 1⟩] xs' := ho
        obtain ⟨ca, cc, rfl⟩ := own_slice ho'.row
        exact ⟨ca, cc, rfl, ⟨xs', Cd.owl_rd ho'⟩, hb⟩
      · simp at hp
  have HCd : Hid (∀ (W : World) (ca : Option Addr) (cc : Nat), (∃ xs', RdL Cd.kCd W (.slice ca 1 cc) [⟨5, 0, 1⟩] xs') → Calls Tryz.prog 24 #[.slice ca 1 cc, .int .i64 5] W fun e w' => e = .returned (.tuple #[.agg #[.int .i64 5, .int .i64 0, .int .i64 1], .bool true]) ∧ Below W.heap.size W w') := fun W ca cc hl => by
    obtain ⟨xs, hl⟩ := hl
    refine Calls.mono (Cd.card_any hl (by simp) 5) ?_
    rintro e w' ⟨c, ok, rfl, ht, hb⟩
    rcases ht with q | ⟨rfl, _, k, hk, _⟩
    · rcases q.2.1 with z | z
      · have : Cd.mayX [⟨5, 0, 1⟩] = true := Cd.may_one.2 ⟨by decide, by decide, by decide, by decide⟩
        rw [this] at z; cases z
      · exact absurd rfl (z ⟨5, 0, 1⟩ (by simp))
    · match k, hk with
      | 0, hk => cases hk; exact ⟨rfl, hb⟩
      | (k + 1), hk => simp at hk
  have HSb : Hid (∀ z, Below w0.heap.size w0 z → z.cell? ⟨nb + 1, 0, none⟩ = some (.slice (some ⟨nb, 0, none⟩) 3 3)) := fun z hz => blk_c (i := 0) (show z.heap[nb + 1]? = some (.cells #[.slice (some ⟨nb, 0, none⟩) 3 3] 30 (0, 0)) from (e0.new hz).nthR 0 rfl) rfl
  have HSN : Hid (∀ (W : World) (ya : Option Addr) (yc : Nat) (b : Nat), Nums W (.slice ya 1 yc) [0] → W.cell? ⟨b, 0, none⟩ = some (.int .i64 0) → Calls Tryz.prog 25 #[.slice ya 1 yc, .slice (some ⟨b, 0, none⟩) 1 1] W fun e w' => e = .returned (.bool true) ∧ Below W.heap.size W w') := fun W ya yc b h1 h2 => by
    have h3 : Nums W (.slice (some ⟨b, 0, none⟩) 1 1) [0] := Or.inr ⟨b, 0, 1, rfl, by simp, by unfold maxLen; omega, fun j z hj => by
      match j, hj with
      | 0, hj => cases hj; exact h2
      | (j + 1), hj => simp at hj⟩
    have := same_any _ _ [0] [0] W h1 h3
    simpa using this
  have HB0 := hide e0.bel
  have HW := hide (And.intro hw0 hnb)
  clear hT e0 hw0 hnb hm1 hm2 hM1 hM2
  go_enter Tryz.func11, Tryz.ntmps11
  go_wp2_with fail
  refine (unhide K1 w).mono ?_
  rintro e w' ⟨rfl, hw'⟩
  subst hw'
  go_wp2_with fail
  refine (unhide K2 w').mono ?_
  rintro e w'' ⟨rfl, hw''⟩
  subst hw''
  clear K1 K2
  go_upto_region 4 with fail
  rw [← (unhide HW).2]
  rw [← (unhide HW).1]
  clear HW
  have s0 := unhide HSb w0 (Below.refl _ _)
  go_wp2_with fail
  refine (unhide HS1).mono ?_
  rintro e z1 ⟨xa1, xc1, rfl, hl1, b1⟩
  have s1 := unhide HSb z1 b1
  have s0 := unhide HSb z1.drew (bw_tr b1 (bw_drewR _))
  have KS2 := hide (unhide HS2 z1.drew xa1 xc1 (bw_tr b1 (bw_drewR _)) (by obtain ⟨xs', q⟩ := unhide hl1; exact ⟨xs', q.bw (bw_drewR _)⟩))
  have HB1 := hide (And.intro b1 (bw_tr (unhide HB0) b1))
  have HSb2 := hide (fun (z : World) (hz : Below z1.heap.size z1 z) => unhide HSb z (bw_tr b1 hz))
  clear HS1 HS2 b1 hl1 HSb
  have HSb := HSb2
  clear HSb2
  go_upto_region 5 with fail
  refine wp_region_held_drew (S := fun w' : World => w'.cell? ⟨nb + 1, 0, none⟩ = some (.slice (some ⟨nb, 0, none⟩) 3 3)) (by kernel_rfl) s0 (fun hHeld => ?_)
  refine wpAnyH_take (i := 0) (oi := { dst := some 37, op := Op.move (Operand.tmp 6), type := 27, pos := "law.go:19", after := #[], guard := none }) (v := ?v0) rfl (by kernel_rfl) (by kernel_rfl) (by kernel_rfl) (fun _ _ _ h => h) (Or.inl ⟨by rfl, ?hy0⟩) (by exact hHeld) ?_
  case hy0 => (intro w hSw; (try dsimp only at hSw); go_simp; try (with_reducible rfl))
  try simp only [Act.put, List.setIfInBounds_toArray, List.set_cons_zero, List.set_cons_succ]
  refine wpAnyH_take (i := 1) (oi := { dst := some 38, op := Op.load 30 (Operand.tmp 5), type := 30, pos := "law.go:19", after := #[], guard := none }) (v := ?v1) rfl (by kernel_rfl) (by kernel_rfl) (by kernel_rfl) (fun _ _ _ h => h) (Or.inl ⟨by rfl, ?hy1⟩) (by exact hHeld) ?_
  case hy1 => (intro w hSw; (try dsimp only at hSw); go_simp; try (with_reducible rfl))
  try simp only [Act.put, List.setIfInBounds_toArray, List.set_cons_zero, List.set_cons_succ]
  refine wpAnyH_take (i := 2) (oi := { dst := some 39, op := Op.fieldAddr 30 (Operand.tmp 5) 0, type := 0, pos := "law.go:19", after := #[], guard := none }) (v := ?v2) rfl (by kernel_rfl) (by kernel_rfl) (by kernel_rfl) (fun _ _ _ h => h) (Or.inl ⟨by rfl, ?hy2⟩) (by exact hHeld) ?_
  case hy2 => (intro w hSw; (try dsimp only at hSw); go_simp; try (with_reducible rfl))
  try simp only [Act.put, List.setIfInBounds_toArray, List.set_cons_zero, List.set_cons_succ]
  refine wpAnyH_take (i := 3) (oi := { dst := some 40, op := Op.load 28 (Operand.tmp 39), type := 28, pos := "law.go:19", after := #[{ on := 2, ground := Ground.data }], guard := none }) (v := ?v3) rfl (by kernel_rfl) (by kernel_rfl) (by kernel_rfl) (fun _ _ _ h => h) (Or.inl ⟨by rfl, ?hy3⟩) (by exact hHeld) ?_
  case hy3 => (intro w hSw; (try dsimp only at hSw); go_simp; try (with_reducible rfl))
  try simp only [Act.put, List.setIfInBounds_toArray, List.set_cons_zero, List.set_cons_succ]
  refine wpAnyH_take (i := 4) (oi := { dst := some 41, op := Op.slice 28 (Operand.tmp 40) none (some (Operand.const (Value.int IntKind.i64 1))) none, type := 28, pos := "law.go:19", after := #[{ on := 3, ground := Ground.data }], guard := none }) (v := ?v4) rfl (by kernel_rfl) (by kernel_rfl) (by kernel_rfl) (fun _ _ _ h => h) (Or.inl ⟨by rfl, ?hy4⟩) (by exact hHeld) ?_
  case hy4 => (intro w hSw; (try dsimp only at hSw); go_simp; try (with_reducible rfl))
  try simp only [Act.put, List.setIfInBounds_toArray, List.set_cons_zero, List.set_cons_succ]
  refine wpAnyH_take (i := 5) (oi := { dst := some 42, op := Op.build 30 #[(0, Operand.tmp 41)], type := 30, pos := "law.go:19", after := #[{ on := 4, ground := Ground.data }], guard := none }) (v := ?v5) rfl (by kernel_rfl) (by kernel_rfl) (by kernel_rfl) (fun _ _ _ h => h) (Or.inl ⟨by rfl, ?hy5⟩) (by exact hHeld) ?_
  case hy5 => (intro w hSw; (try dsimp only at hSw); go_simp; try (with_reducible rfl))
  try simp only [Act.put, List.setIfInBounds_toArray, List.set_cons_zero, List.set_cons_succ]
  refine wpAnyH_take (i := 6) (oi := { dst := some 43, op := Op.build 50 #[], type := 50, pos := "law.go:19", after := #[], guard := none }) (v := ?v6) rfl (by kernel_rfl) (by kernel_rfl) (by kernel_rfl) (fun _ _ _ h => h) (Or.inl ⟨by rfl, ?hy6⟩) (by exact hHeld) ?_
  case hy6 => (intro w hSw; (try dsimp only at hSw); go_simp; try (with_reducible rfl))
  try simp only [Act.put, List.setIfInBounds_toArray, List.set_cons_zero, List.set_cons_succ]
  refine wpAnyH_ready (rs := [7]) (by kernel_rfl) (by simp) ?_
  refine AllReadyH.cons (o := { dst := some 44, op := Op.call { callee := Callee.value (Operand.func 15), args := #[Operand.tmp 37, Operand.tmp 38, Operand.tmp 42, Operand.tmp 43], argTypes := #[27, 30, 30, 50] }, type := 34, pos := "law.go:19", after := #[{ on := 0, ground := Ground.data }, { on := 1, ground := Ground.data }, { on := 5, ground := Ground.data }, { on := 6, ground := Ground.data }], guard := none }) rfl (fun K hK => ?_) AllReadyH.nil
  go_simp
  refine (unhide KS2).mono ?_
  rintro e z5 ⟨xa5, xc5, rfl, hl5, b5⟩
  have s5 := unhide HSb z5 (bw_tr (bw_drewR _) b5)
  go_wp2_with fail
  refine hK.out _ _ s5 (fun _ => ?_)
  clear hK K
  try simp only [Act.put, List.setIfInBounds_toArray, List.set_cons_zero, List.set_cons_succ]
  refine wpAnyH_take (i := 8) (oi := { dst := some 36, op := Op.move (Operand.tmp 44), type := 34, pos := "law.go:19", after := #[{ on := 7, ground := Ground.data }], guard := none }) (v := ?v8) rfl (by kernel_rfl) (by kernel_rfl) (by kernel_rfl) (fun _ _ _ h => h) (Or.inl ⟨by rfl, ?hy8⟩) (by exact s5) ?_
  case hy8 => (intro w hSw; (try dsimp only at hSw); go_simp; try (with_reducible rfl))
  try simp only [Act.put, List.setIfInBounds_toArray, List.set_cons_zero, List.set_cons_succ]
  refine wpAnyH_take (i := 9) (oi := { dst := some 45, op := Op.extract (Operand.tmp 36) 0, type := 27, pos := "law.go:19", after := #[{ on := 8, ground := Ground.data }], guard := none }) (v := ?v9) rfl (by kernel_rfl) (by kernel_rfl) (by kernel_rfl) (fun _ _ _ h => h) (Or.inl ⟨by rfl, ?hy9⟩) (by exact s5) ?_
  case hy9 => (intro w hSw; (try dsimp only at hSw); go_simp; try (with_reducible rfl))
  try simp only [Act.put, List.setIfInBounds_toArray, List.set_cons_zero, List.set_cons_succ]
  refine wpAnyH_take (i := 10) (oi := { dst := some 46, op := Op.extract (Operand.tmp 36) 1, type := 22, pos := "law.go:19", after := #[{ on := 8, ground := Ground.data }, { on := 11, ground := Ground.gcOnly Departure.lateStores }], guard := none }) (v := ?v10) rfl (by kernel_rfl) (by kernel_rfl) (by kernel_rfl) (fun _ _ _ h => h) (Or.inl ⟨by rfl, ?hy10⟩) (by exact s5) ?_
  case hy10 => (intro w hSw; (try dsimp only at hSw); go_simp; try (with_reducible rfl))
  try simp only [Act.put, List.setIfInBounds_toArray, List.set_cons_zero, List.set_cons_succ]
  refine wpAnyH_take (i := 11) (oi := { dst := some 8, op := Op.assign (Operand.tmp 45), type := 27, pos := "law.go:19", after := #[{ on := 9, ground := Ground.data }, { on := 7, ground := Ground.chain }, { on := 0, ground := Ground.phase }, { on := 1, ground := Ground.phase }, { on := 2, ground := Ground.phase }, { on := 3, ground := Ground.phase }, { on := 4, ground := Ground.phase }, { on := 5, ground := Ground.phase }, { on := 6, ground := Ground.phase }, { on := 7, ground := Ground.phase }, { on := 8, ground := Ground.phase }, { on := 9, ground := Ground.phase }, { on := 10, ground := Ground.textOnly Departure.lateStores }], guard := none }) (v := ?v11) rfl (by kernel_rfl) (by kernel_rfl) (by kernel_rfl) (fun _ _ _ h => h) (Or.inl ⟨by rfl, ?hy11⟩) (by exact s5) ?_
  case hy11 => (intro w hSw; (try dsimp only at hSw); go_simp; try (with_reducible rfl))
  try simp only [Act.put, List.setIfInBounds_toArray, List.set_cons_zero, List.set_cons_succ]
  refine wpAnyH_take (i := 12) (oi := { dst := some 9, op := Op.assign (Operand.tmp 46), type := 22, pos := "law.go:19", after := #[{ on := 10, ground := Ground.data }, { on := 11, ground := Ground.chain }, { on := 0, ground := Ground.phase }, { on := 1, ground := Ground.phase }, { on := 2, ground := Ground.phase }, { on := 3, ground := Ground.phase }, { on := 4, ground := Ground.phase }, { on := 5, ground := Ground.phase }, { on := 6, ground := Ground.phase }, { on := 7, ground := Ground.phase }, { on := 8, ground := Ground.phase }, { on := 9, ground := Ground.phase }, { on := 10, ground := Ground.phase }, { on := 11, ground := Ground.phase }], guard := none }) (v := ?v12) rfl (by kernel_rfl) (by kernel_rfl) (by kernel_rfl) (fun _ _ _ h => h) (Or.inl ⟨by rfl, ?hy12⟩) (by exact s5) ?_
  case hy12 => (intro w hSw; (try dsimp only at hSw); go_simp; try (with_reducible rfl))
  try simp only [Act.put, List.setIfInBounds_toArray, List.set_cons_zero, List.set_cons_succ]
  refine wpAnyH_done (by kernel_rfl) ?_ _
  have HB5 := hide (bw_tr (bw_tr (unhide HB1).2 (bw_drewR _)) b5)
  have KDv := hide (unhide HDv z5 xa5 xc5 (unhide hl5))
  clear HDv hl5 b5 s0 s1 s5 KS2 HSb HB1 hHeld
  go_wp2_with fail
  refine (unhide KDv).mono ?_
  rintro e z6 ⟨ya, yc, rfl, hn6, b6⟩
  have HB6 := hide (bw_tr (unhide HB5) b6)
  have KSc := hide (unhide HSc z6)
  clear KDv b6 HB5 HSc
  go_wp2_with fail
  refine (unhide KSc).mono ?_
  rintro e z7 ⟨ca, cc, rfl, hc7, b7⟩
  have HB7 := hide (bw_tr (unhide HB6) b7)
  have HN7 := hide ((unhide hn6).bwR b7)
  have KCd := hide (unhide HCd z7 ca cc (unhide hc7))
  clear KSc b7 HB6 HCd hc7 hn6
  go_wp2_with fail
  refine (unhide KCd).mono ?_
  rintro e z8 ⟨rfl, b8⟩
  obtain ⟨W9, hW9⟩ : ∃ W, W = z8.alloc (.cells #[.int .i64 5, .int .i64 0, .int .i64 1] 44) := ⟨_, rfl⟩
  have b9 : Below z8.heap.size z8 W9 := by rw [hW9]; exact bwA _ _
  have k9 : W9.heap[z8.heap.size]? = some (.cells #[.int .i64 5, .int .i64 0, .int .i64 1] 44 (0, 0)) := by rw [hW9]; exact heap_alloc_new _ _
  obtain ⟨W10, hW10⟩ : ∃ W, W = W9.alloc (.cells #[.int .i64 0] 3) := ⟨_, rfl⟩
  have b10 : Below W9.heap.size W9 W10 := by rw [hW10]; exact bwA _ _
  have KN := hide (unhide HSN W10 ya yc W9.heap.size (((unhide HN7).bwR b8).bwR (bw_tr b9 b10)) (by rw [hW10]; exact blk_c (heap_alloc_new _ _) rfl))
  have HK9 : Hid (∀ z, Below W10.heap.size W10 z → z.cell? ⟨z8.heap.size, 2, none⟩ = some (.int .i64 1)) := fun z hz => blk_c (kept_b k9 (lt_of_blk k9) (bw_tr b10 hz)) rfl
  have HB10 := hide (bw_tr (bw_tr (bw_tr (unhide HB7) b8) b9) b10)
  have HW9 := hide hW9
  have HW10 := hide hW10
  clear KCd b8 HB7 hW9 b9 k9 hW10 b10 HSN HN7
  go_upto_region 9 with fail
  rw [← unhide HW9]
  clear HW9
  go_wp2_with fail
  rw [← unhide HW10]
  refine (unhide KN).mono ?_
  rintro e z11 ⟨rfl, b11⟩
  have y2 := unhide HK9 z11 b11
  have HB11 := hide (bw_tr (unhide HB10) b11)
  clear KN b11 HK9 HB10 HW10
  go_wp2_with fail
  go_ret
  exact ⟨rfl, unhide HB11⟩
end Go.Proofs.YtgmlkofogeoocaaGreatDoor
