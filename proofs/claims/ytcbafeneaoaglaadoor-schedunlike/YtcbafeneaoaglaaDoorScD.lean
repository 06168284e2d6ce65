/- The contracts of sched.Next and sched.From, whatever is asked. -/
import Derived.Test.YtcbafeneaoaglaaDoorZ17
namespace Go.Proofs.YtcbafeneaoaglaaDoor.Tn
open Go.RowKit Go.Maps

def nx3 (L : List Tm) (i c x : Int) : Bool := thr L.length i && (thr L.length c && thr L.length x)
def nxtL (L : List Tm) (i c x : Int) : List Tm := if nx3 L i c x = true then secL (nxL L i c) (nxJ L i c : Nat) x else L
def nxtV (L : List Tm) (i c x : Int) : List Int := if nx3 L i c x = true then secV (nxL L i c) (nxJ L i c : Nat) x else [0, 0, 0, 0, 0, 0]
def nxtE (L : List Tm) (i c x : Int) : Int := if nx3 L i c x = true then 0 else 1
def fr2 (L : List Tm) (j x : Int) : Bool := thr L.length j && thr L.length x
def frL (L : List Tm) (j x : Int) : List Tm := if fr2 L j x = true then secL L j x else L
def frV (L : List Tm) (j x : Int) : List Int := if fr2 L j x = true then secV L j x else [0, 0, 0, 0, 0, 0]
def frE (L : List Tm) (j x : Int) : Int := if fr2 L j x = true then 0 else 1
theorem zero6 : secA [0, 0, 0, 0, 0, 0] = .agg #[.int .i64 0, .int .i64 0, .int .i64 0, .int .i64 0, .int .i64 0, .int .i64 0] := rfl
set_option maxRecDepth 100000 in
set_option maxHeartbeats 4000000 in
theorem next_any {b : Nat} {sv : Value} {mb : Nat} {L : List Tm} {w : World} (h : St w b sv mb L) (i c x : Int) (hl : L.length + 160 ≤ 1048576) :
    Calls Tryd.prog 5 #[.pointer (some ⟨b, 0, none⟩), .int .i64 i, .int .i64 c, .int .i64 x] w fun e w' => e = .returned (.tuple #[secA (nxtV L i c x), .int .i64 (nxtE L i c x)]) ∧ ∃ sv', SStep w w' b sv sv' mb (nxtL L i c x) := by
  obtain ⟨w0, hw0⟩ : ∃ w0, w0 = ((((w.alloc (.cells #[.int .i64 i] 3)).alloc (.cells #[.int .i64 c] 3)).alloc (.cells #[.int .i64 x] 3)).alloc (.cells #[.int .i64 0, .int .i64 0, .int .i64 0, .int .i64 0, .int .i64 0, .int .i64 0] 33)) := ⟨_, rfl⟩
  obtain ⟨y0, y1, y2, y3, x0⟩ := blk4 w (.cells #[.int .i64 i] 3) (.cells #[.int .i64 c] 3) (.cells #[.int .i64 x] 3) (.cells #[.int .i64 0, .int .i64 0, .int .i64 0, .int .i64 0, .int .i64 0, .int .i64 0] 33)
  rw [← hw0] at y0 y1 y2 y3 x0
  have HW := hide hw0
  have S0 : Hid (SStep w w0 b sv sv mb L) := SStep.same h x0
  have KMi := hide (hmissing_any (unhide S0).st)
  have KH : Hid (∀ W, Below w0.heap.size w0 W → ∀ z, Calls Tryd.prog 12 #[.pointer (some ⟨b, 0, none⟩), .int .i64 z] W fun e w' => e = .returned (.bool (thr L.length z)) ∧ Below W.heap.size W w') := fun W hW z => hhas_any ((unhide S0).st.bw hW) z
  have YY : Hid (∀ W, Below w0.heap.size w0 W → W.heap[w.heap.size]? = some (.cells #[.int .i64 i] 3 (0, 0)) ∧ W.heap[w.heap.size + 1]? = some (.cells #[.int .i64 c] 3 (0, 0)) ∧ W.heap[w.heap.size + 1 + 1]? = some (.cells #[.int .i64 x] 3 (0, 0)) ∧ W.heap[w.heap.size + 1 + 1 + 1]? = some (.cells #[.int .i64 0, .int .i64 0, .int .i64 0, .int .i64 0, .int .i64 0, .int .i64 0] 33 (0, 0)) ∧ SStep w W b sv sv mb L) := fun W hW => ⟨kept_blk y0 hW, kept_blk y1 hW, kept_blk y2 hW, kept_blk y3 hW, (unhide S0).after hW⟩
  clear hw0 y0 y1 y2 y3
  cases t0 : thr L.length i
  · have e1 : nx3 L i c x = false := by unfold nx3; simp [t0]
    unfold nxtL nxtV nxtE
    rw [e1]
    simp only [Bool.false_eq_true, if_false, zero6]
    clear e1 h hl x0 S0
    go_enter Tryd.func5, Tryd.ntmps5
    go_upto_region 1 with fail
    rw [← unhide HW]
    clear HW
    go_wp2_with fail
    refine (unhide KMi).mono ?_
    rintro e z0 ⟨rfl, rfl⟩
    clear KMi
    have B0 : Below z0.heap.size z0 z0 := Below.refl _ _
    obtain ⟨c0_0, -, -, -, -⟩ := unhide YY _ B0
    have d0 := blk_cell (i := 0) c0_0 rfl
    have KQ := hide (unhide KH _ B0 i)
    rw [t0] at KQ
    clear c0_0
    go_wp2_with fail
    refine (unhide KQ).mono ?_
    rintro e z1 ⟨rfl, y⟩
    have B1 := bw_tr B0 y
    clear KQ y d0 B0
    obtain ⟨-, -, -, k9, s9⟩ := unhide YY _ B1
    have S9 := hide s9
    clear s9 YY KH B1 t0
    have h0 := blk_cell (i := 0) k9 rfl
    have h1 := blk_cell (i := 1) k9 rfl
    have h2 := blk_cell (i := 2) k9 rfl
    have h3 := blk_cell (i := 3) k9 rfl
    have h4 := blk_cell (i := 4) k9 rfl
    have h5 := blk_cell (i := 5) k9 rfl
    have hf := fun i => blk_froz (i := i) k9
    go_wp2_with fail
    obtain ⟨SV, bV⟩ := (unhide S9).six k9 (by decide) (by decide) (by omega) (.int .i64 0) (.int .i64 0) (.int .i64 0) (.int .i64 0) (.int .i64 0) (.int .i64 0)
    generalize ((((((z1.setCell ⟨w.heap.size + 1 + 1 + 1, 0, none⟩ (.int .i64 0)).setCell ⟨w.heap.size + 1 + 1 + 1, 1, none⟩ (.int .i64 0)).setCell ⟨w.heap.size + 1 + 1 + 1, 2, none⟩ (.int .i64 0)).setCell ⟨w.heap.size + 1 + 1 + 1, 3, none⟩ (.int .i64 0)).setCell ⟨w.heap.size + 1 + 1 + 1, 4, none⟩ (.int .i64 0)).setCell ⟨w.heap.size + 1 + 1 + 1, 5, none⟩ (.int .i64 0)) = V at SV bV ⊢
    have g0 := blk_cell (i := 0) bV rfl
    have g1 := blk_cell (i := 1) bV rfl
    have g2 := blk_cell (i := 2) bV rfl
    have g3 := blk_cell (i := 3) bV rfl
    have g4 := blk_cell (i := 4) bV rfl
    have g5 := blk_cell (i := 5) bV rfl
    have HSV := hide SV
    clear SV bV k9 h0 h1 h2 h3 h4 h5 hf S9
    exact bodyPost_ret (v := .tuple #[.agg #[.int .i64 0, .int .i64 0, .int .i64 0, .int .i64 0, .int .i64 0, .int .i64 0], .int .i64 1]) (by simp [results, Tryd.results5, go_sem, g0, g1, g2, g3, g4, g5]) rfl ⟨rfl, sv, unhide HSV⟩
  cases t1 : thr L.length c
  · have e1 : nx3 L i c x = false := by unfold nx3; simp [t0, t1]
    unfold nxtL nxtV nxtE
    rw [e1]
    simp only [Bool.false_eq_true, if_false, zero6]
    clear e1 h hl x0 S0
    go_enter Tryd.func5, Tryd.ntmps5
    go_upto_region 1 with fail
    rw [← unhide HW]
    clear HW
    go_wp2_with fail
    refine (unhide KMi).mono ?_
    rintro e z0 ⟨rfl, rfl⟩
    clear KMi
    have B0 : Below z0.heap.size z0 z0 := Below.refl _ _
    obtain ⟨c0_0, -, -, -, -⟩ := unhide YY _ B0
    have d0 := blk_cell (i := 0) c0_0 rfl
    have KQ := hide (unhide KH _ B0 i)
    rw [t0] at KQ
    clear c0_0
    go_wp2_with fail
    refine (unhide KQ).mono ?_
    rintro e z1 ⟨rfl, y⟩
    have B1 := bw_tr B0 y
    clear KQ y d0 B0
    obtain ⟨-, c1_1, -, -, -⟩ := unhide YY _ B1
    have d1 := blk_cell (i := 0) c1_1 rfl
    have KQ := hide (unhide KH _ B1 c)
    rw [t1] at KQ
    clear c1_1
    go_wp2_with fail
    refine (unhide KQ).mono ?_
    rintro e z2 ⟨rfl, y⟩
    have B2 := bw_tr B1 y
    clear KQ y d1 B1
    obtain ⟨-, -, -, k9, s9⟩ := unhide YY _ B2
    have S9 := hide s9
    clear s9 YY KH B2 t0 t1
    have h0 := blk_cell (i := 0) k9 rfl
    have h1 := blk_cell (i := 1) k9 rfl
    have h2 := blk_cell (i := 2) k9 rfl
    have h3 := blk_cell (i := 3) k9 rfl
    have h4 := blk_cell (i := 4) k9 rfl
    have h5 := blk_cell (i := 5) k9 rfl
    have hf := fun i => blk_froz (i := i) k9
    go_wp2_with fail
    obtain ⟨SV, bV⟩ := (unhide S9).six k9 (by decide) (by decide) (by omega) (.int .i64 0) (.int .i64 0) (.int .i64 0) (.int .i64 0) (.int .i64 0) (.int .i64 0)
    generalize ((((((z2.setCell ⟨w.heap.size + 1 + 1 + 1, 0, none⟩ (.int .i64 0)).setCell ⟨w.heap.size + 1 + 1 + 1, 1, none⟩ (.int .i64 0)).setCell ⟨w.heap.size + 1 + 1 + 1, 2, none⟩ (.int .i64 0)).setCell ⟨w.heap.size + 1 + 1 + 1, 3, none⟩ (.int .i64 0)).setCell ⟨w.heap.size + 1 + 1 + 1, 4, none⟩ (.int .i64 0)).setCell ⟨w.heap.size + 1 + 1 + 1, 5, none⟩ (.int .i64 0)) = V at SV bV ⊢
    have g0 := blk_cell (i := 0) bV rfl
    have g1 := blk_cell (i := 1) bV rfl
    have g2 := blk_cell (i := 2) bV rfl
    have g3 := blk_cell (i := 3) bV rfl
    have g4 := blk_cell (i := 4) bV rfl
    have g5 := blk_cell (i := 5) bV rfl
    have HSV := hide SV
    clear SV bV k9 h0 h1 h2 h3 h4 h5 hf S9
    exact bodyPost_ret (v := .tuple #[.agg #[.int .i64 0, .int .i64 0, .int .i64 0, .int .i64 0, .int .i64 0, .int .i64 0], .int .i64 1]) (by simp [results, Tryd.results5, go_sem, g0, g1, g2, g3, g4, g5]) rfl ⟨rfl, sv, unhide HSV⟩
  cases t2 : thr L.length x
  · have e1 : nx3 L i c x = false := by unfold nx3; simp [t0, t1, t2]
    unfold nxtL nxtV nxtE
    rw [e1]
    simp only [Bool.false_eq_true, if_false, zero6]
    clear e1 h hl x0 S0
    go_enter Tryd.func5, Tryd.ntmps5
    go_upto_region 1 with fail
    rw [← unhide HW]
    clear HW
    go_wp2_with fail
    refine (unhide KMi).mono ?_
    rintro e z0 ⟨rfl, rfl⟩
    clear KMi
    have B0 : Below z0.heap.size z0 z0 := Below.refl _ _
    obtain ⟨c0_0, -, -, -, -⟩ := unhide YY _ B0
    have d0 := blk_cell (i := 0) c0_0 rfl
    have KQ := hide (unhide KH _ B0 i)
    rw [t0] at KQ
    clear c0_0
    go_wp2_with fail
    refine (unhide KQ).mono ?_
    rintro e z1 ⟨rfl, y⟩
    have B1 := bw_tr B0 y
    clear KQ y d0 B0
    obtain ⟨-, c1_1, -, -, -⟩ := unhide YY _ B1
    have d1 := blk_cell (i := 0) c1_1 rfl
    have KQ := hide (unhide KH _ B1 c)
    rw [t1] at KQ
    clear c1_1
    go_wp2_with fail
    refine (unhide KQ).mono ?_
    rintro e z2 ⟨rfl, y⟩
    have B2 := bw_tr B1 y
    clear KQ y d1 B1
    obtain ⟨-, -, c2_2, -, -⟩ := unhide YY _ B2
    have d2 := blk_cell (i := 0) c2_2 rfl
    have KQ := hide (unhide KH _ B2 x)
    rw [t2] at KQ
    clear c2_2
    go_wp2_with fail
    refine (unhide KQ).mono ?_
    rintro e z3 ⟨rfl, y⟩
    have B3 := bw_tr B2 y
    clear KQ y d2 B2
    obtain ⟨-, -, -, k9, s9⟩ := unhide YY _ B3
    have S9 := hide s9
    clear s9 YY KH B3 t0 t1 t2
    have h0 := blk_cell (i := 0) k9 rfl
    have h1 := blk_cell (i := 1) k9 rfl
    have h2 := blk_cell (i := 2) k9 rfl
    have h3 := blk_cell (i := 3) k9 rfl
    have h4 := blk_cell (i := 4) k9 rfl
    have h5 := blk_cell (i := 5) k9 rfl
    have hf := fun i => blk_froz (i := i) k9
    go_wp2_with fail
    obtain ⟨SV, bV⟩ := (unhide S9).six k9 (by decide) (by decide) (by omega) (.int .i64 0) (.int .i64 0) (.int .i64 0) (.int .i64 0) (.int .i64 0) (.int .i64 0)
    generalize ((((((z3.setCell ⟨w.heap.size + 1 + 1 + 1, 0, none⟩ (.int .i64 0)).setCell ⟨w.heap.size + 1 + 1 + 1, 1, none⟩ (.int .i64 0)).setCell ⟨w.heap.size + 1 + 1 + 1, 2, none⟩ (.int .i64 0)).setCell ⟨w.heap.size + 1 + 1 + 1, 3, none⟩ (.int .i64 0)).setCell ⟨w.heap.size + 1 + 1 + 1, 4, none⟩ (.int .i64 0)).setCell ⟨w.heap.size + 1 + 1 + 1, 5, none⟩ (.int .i64 0)) = V at SV bV ⊢
    have g0 := blk_cell (i := 0) bV rfl
    have g1 := blk_cell (i := 1) bV rfl
    have g2 := blk_cell (i := 2) bV rfl
    have g3 := blk_cell (i := 3) bV rfl
    have g4 := blk_cell (i := 4) bV rfl
    have g5 := blk_cell (i := 5) bV rfl
    have HSV := hide SV
    clear SV bV k9 h0 h1 h2 h3 h4 h5 hf S9
    exact bodyPost_ret (v := .tuple #[.agg #[.int .i64 0, .int .i64 0, .int .i64 0, .int .i64 0, .int .i64 0, .int .i64 0], .int .i64 1]) (by simp [results, Tryd.results5, go_sem, g0, g1, g2, g3, g4, g5]) rfl ⟨rfl, sv, unhide HSV⟩
  have e1 : nx3 L i c x = true := by unfold nx3; simp [t0, t1, t2]
  unfold nxtL nxtV nxtE
  rw [e1]
  simp only [if_true]
  clear e1
  obtain ⟨a0, a1, a2, a3, a4, a5, ha⟩ : ∃ a0 a1 a2 a3 a4 a5, secV (nxL L i c) (nxJ L i c : Nat) x = [a0, a1, a2, a3, a4, a5] := ⟨_, _, _, _, _, _, rfl⟩
  rw [ha, secA6]
  have KA : Hid (∀ W, Below w0.heap.size w0 W → Calls Tryd.prog 13 #[.pointer (some ⟨b, 0, none⟩), .int .i64 160, .func (.func 14) #[] #[.pointer (some ⟨w.heap.size, 0, none⟩), .pointer (some ⟨w.heap.size + 1, 0, none⟩), .pointer (some ⟨w.heap.size + 1 + 1, 0, none⟩)]] W fun e w' => e = .returned (.tuple #[.agg #[.int .i64 a0, .int .i64 a1, .int .i64 a2, .int .i64 a3, .int .i64 a4, .int .i64 a5], .int .i64 0]) ∧ ∃ sv', SStep W w' b sv sv' mb (secL (nxL L i c) (nxJ L i c : Nat) x)) := fun W hW => aonS_next (unhide YY W hW).2.2.2.2.st hl (w.heap.size) (w.heap.size + 1) (w.heap.size + 1 + 1) a0 a1 a2 a3 a4 a5 (fun V hV => next1_any ((unhide YY _ (bw_tr hW hV)).2.2.2.2.st) i c x t0 t1 t2 (by omega) (w.heap.size) (w.heap.size + 1) (w.heap.size + 1 + 1) (blk_cell (unhide YY _ (bw_tr hW hV)).1 rfl) (blk_cell (unhide YY _ (bw_tr hW hV)).2.1 rfl) (unhide YY _ (bw_tr hW hV)).2.2.1 a0 a1 a2 a3 a4 a5 ha)
  clear h hl x0 S0 ha
  go_enter Tryd.func5, Tryd.ntmps5
  go_upto_region 1 with fail
  rw [← unhide HW]
  clear HW
  go_wp2_with fail
  refine (unhide KMi).mono ?_
  rintro e z0 ⟨rfl, rfl⟩
  clear KMi
  have B0 : Below z0.heap.size z0 z0 := Below.refl _ _
  obtain ⟨c0_0, -, -, -, -⟩ := unhide YY _ B0
  have d0 := blk_cell (i := 0) c0_0 rfl
  have KQ := hide (unhide KH _ B0 i)
  rw [t0] at KQ
  clear c0_0
  go_wp2_with fail
  refine (unhide KQ).mono ?_
  rintro e z1 ⟨rfl, y⟩
  have B1 := bw_tr B0 y
  clear KQ y d0 B0
  obtain ⟨-, c1_1, -, -, -⟩ := unhide YY _ B1
  have d1 := blk_cell (i := 0) c1_1 rfl
  have KQ := hide (unhide KH _ B1 c)
  rw [t1] at KQ
  clear c1_1
  go_wp2_with fail
  refine (unhide KQ).mono ?_
  rintro e z2 ⟨rfl, y⟩
  have B2 := bw_tr B1 y
  clear KQ y d1 B1
  obtain ⟨-, -, c2_2, -, -⟩ := unhide YY _ B2
  have d2 := blk_cell (i := 0) c2_2 rfl
  have KQ := hide (unhide KH _ B2 x)
  rw [t2] at KQ
  clear c2_2
  go_wp2_with fail
  refine (unhide KQ).mono ?_
  rintro e z3 ⟨rfl, y⟩
  have B3 := bw_tr B2 y
  clear KQ y d2 B2
  obtain ⟨-, -, -, k8, s8⟩ := unhide YY _ B3
  have KB := hide (unhide KA _ B3)
  have S8 := hide s8
  clear s8 YY KH B3 KA t0 t1 t2
  go_wp2_with fail
  refine (unhide KB).mono ?_
  rintro e w9 ⟨rfl, sv9, s9⟩
  have S9 := hide ((unhide S8).trans s9)
  have k9 := kept_fr k8 (unhide S8).st s9.fr (by decide) (by decide)
  clear s9 S8 k8 KB
  have h0 := blk_cell (i := 0) k9 rfl
  have h1 := blk_cell (i := 1) k9 rfl
  have h2 := blk_cell (i := 2) k9 rfl
  have h3 := blk_cell (i := 3) k9 rfl
  have h4 := blk_cell (i := 4) k9 rfl
  have h5 := blk_cell (i := 5) k9 rfl
  have hf := fun i => blk_froz (i := i) k9
  go_wp2_with fail
  obtain ⟨SV, bV⟩ := (unhide S9).six k9 (by decide) (by decide) (by omega) (.int .i64 a0) (.int .i64 a1) (.int .i64 a2) (.int .i64 a3) (.int .i64 a4) (.int .i64 a5)
  generalize ((((((w9.setCell ⟨w.heap.size + 1 + 1 + 1, 0, none⟩ (.int .i64 a0)).setCell ⟨w.heap.size + 1 + 1 + 1, 1, none⟩ (.int .i64 a1)).setCell ⟨w.heap.size + 1 + 1 + 1, 2, none⟩ (.int .i64 a2)).setCell ⟨w.heap.size + 1 + 1 + 1, 3, none⟩ (.int .i64 a3)).setCell ⟨w.heap.size + 1 + 1 + 1, 4, none⟩ (.int .i64 a4)).setCell ⟨w.heap.size + 1 + 1 + 1, 5, none⟩ (.int .i64 a5)) = V at SV bV ⊢
  have g0 := blk_cell (i := 0) bV rfl
  have g1 := blk_cell (i := 1) bV rfl
  have g2 := blk_cell (i := 2) bV rfl
  have g3 := blk_cell (i := 3) bV rfl
  have g4 := blk_cell (i := 4) bV rfl
  have g5 := blk_cell (i := 5) bV rfl
  have HSV := hide SV
  clear SV bV k9 h0 h1 h2 h3 h4 h5 hf S9
  exact bodyPost_ret (v := .tuple #[.agg #[.int .i64 a0, .int .i64 a1, .int .i64 a2, .int .i64 a3, .int .i64 a4, .int .i64 a5], .int .i64 0]) (by simp [results, Tryd.results5, go_sem, g0, g1, g2, g3, g4, g5]) rfl ⟨rfl, sv9, unhide HSV⟩
set_option maxRecDepth 100000 in
set_option maxHeartbeats 4000000 in
theorem next_nil (w : World) (i c x : Int) :
    Calls Tryd.prog 5 #[.pointer none, .int .i64 i, .int .i64 c, .int .i64 x] w fun e w' => e = .returned (.tuple #[.agg #[.int .i64 0, .int .i64 0, .int .i64 0, .int .i64 0, .int .i64 0, .int .i64 0], .int .i64 2]) ∧ Below w.heap.size w w' := by
  obtain ⟨w0, hw0⟩ : ∃ w0, w0 = ((((w.alloc (.cells #[.int .i64 i] 3)).alloc (.cells #[.int .i64 c] 3)).alloc (.cells #[.int .i64 x] 3)).alloc (.cells #[.int .i64 0, .int .i64 0, .int .i64 0, .int .i64 0, .int .i64 0, .int .i64 0] 33)) := ⟨_, rfl⟩
  obtain ⟨y0, y1, y2, y3, x0⟩ := blk4 w (.cells #[.int .i64 i] 3) (.cells #[.int .i64 c] 3) (.cells #[.int .i64 x] 3) (.cells #[.int .i64 0, .int .i64 0, .int .i64 0, .int .i64 0, .int .i64 0, .int .i64 0] 33)
  rw [← hw0] at y0 y1 y2 y3 x0
  have HW := hide hw0
  have KMi := hide (hmissing_nil w0)
  clear hw0 y0 y1 y2
  go_enter Tryd.func5, Tryd.ntmps5
  go_upto_region 1 with fail
  rw [← unhide HW]
  clear HW
  go_wp2_with fail
  refine (unhide KMi).mono ?_
  rintro e z0 ⟨rfl, rfl⟩
  clear KMi
  have h0 := blk_cell (i := 0) y3 rfl
  have h1 := blk_cell (i := 1) y3 rfl
  have h2 := blk_cell (i := 2) y3 rfl
  have h3 := blk_cell (i := 3) y3 rfl
  have h4 := blk_cell (i := 4) y3 rfl
  have h5 := blk_cell (i := 5) y3 rfl
  have hf := fun i => blk_froz (i := i) y3
  go_wp2_with fail
  have e0 := poke_blk (i := 0) y3 (.int .i64 0)
  have e1 := poke_blk (i := 1) e0 (.int .i64 0)
  have e2 := poke_blk (i := 2) e1 (.int .i64 0)
  have e3 := poke_blk (i := 3) e2 (.int .i64 0)
  have e4 := poke_blk (i := 4) e3 (.int .i64 0)
  have e5 := poke_blk (i := 5) e4 (.int .i64 0)
  have bb : Below w.heap.size w ((((((z0.setCell ⟨w.heap.size + 1 + 1 + 1, 0, none⟩ (.int .i64 0)).setCell ⟨w.heap.size + 1 + 1 + 1, 1, none⟩ (.int .i64 0)).setCell ⟨w.heap.size + 1 + 1 + 1, 2, none⟩ (.int .i64 0)).setCell ⟨w.heap.size + 1 + 1 + 1, 3, none⟩ (.int .i64 0)).setCell ⟨w.heap.size + 1 + 1 + 1, 4, none⟩ (.int .i64 0)).setCell ⟨w.heap.size + 1 + 1 + 1, 5, none⟩ (.int .i64 0)) := by
    have hk : w.heap.size ≤ w.heap.size + 1 + 1 + 1 := by omega
    exact (((((x0.setCell hk _).setCell hk _).setCell hk _).setCell hk _).setCell hk _).setCell hk _
  generalize ((((((z0.setCell ⟨w.heap.size + 1 + 1 + 1, 0, none⟩ (.int .i64 0)).setCell ⟨w.heap.size + 1 + 1 + 1, 1, none⟩ (.int .i64 0)).setCell ⟨w.heap.size + 1 + 1 + 1, 2, none⟩ (.int .i64 0)).setCell ⟨w.heap.size + 1 + 1 + 1, 3, none⟩ (.int .i64 0)).setCell ⟨w.heap.size + 1 + 1 + 1, 4, none⟩ (.int .i64 0)).setCell ⟨w.heap.size + 1 + 1 + 1, 5, none⟩ (.int .i64 0)) = V at e5 bb ⊢
  have g0 := blk_cell (i := 0) e5 rfl
  have g1 := blk_cell (i := 1) e5 rfl
  have g2 := blk_cell (i := 2) e5 rfl
  have g3 := blk_cell (i := 3) e5 rfl
  have g4 := blk_cell (i := 4) e5 rfl
  have g5 := blk_cell (i := 5) e5 rfl
  clear e5
  exact bodyPost_ret (v := .tuple #[.agg #[.int .i64 0, .int .i64 0, .int .i64 0, .int .i64 0, .int .i64 0, .int .i64 0], .int .i64 2]) (by simp [results, Tryd.results5, go_sem, g0, g1, g2, g3, g4, g5]) rfl ⟨rfl, bb⟩
end Go.Proofs.YtcbafeneaoaglaaDoor.Tn
