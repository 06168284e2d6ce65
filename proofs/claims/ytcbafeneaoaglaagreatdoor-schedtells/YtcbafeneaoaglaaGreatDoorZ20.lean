/- Texts joined: ScD NTmRL. -/
import Derived.Test.YtcbafeneaoaglaaGreatDoorZ19
import Derived.Test.YtcbafeneaoaglaaGreatDoorZ18
/- The contracts of sched.Next and sched.From, whatever is asked. -/
namespace Go.Proofs.YtcbafeneaoaglaaGreatDoor.Tn
open Go.RowKit Go.Maps

def nx3 (L : List Tm) (i c x : Int) : Bool := thr L.length i && (thr L.length c && thr L.length x)
def nxtL (L : List Tm) (i c x : Int) : List Tm := if nx3 L i c x = true then secL (nxL L i c) (nxJ L i c : Nat) x else L
def nxtV (L : List Tm) (i c x : Int) : List Int := if nx3 L i c x = true then secV (nxL L i c) (nxJ L i c : Nat) x else [0, 0, 0, 0, 0, 0]
def nxtE (L : List Tm) (i c x : Int) : Int := if nx3 L i c x = true then 0 else 1
def fr2 (L : List Tm) (j x : Int) : Bool := thr L.length j && thr L.length x
def frL (L : List Tm) (j x : Int) : List Tm := if fr2 L j x = true then secL L j x else L
def frV (L : List Tm) (j x : Int) : List Int := if fr2 L j x = true then secV L j x else [0, 0, 0, 0, 0, 0]
def frE (L : List Tm) (j x : Int) : Int := if fr2 L j x = true then 0 else 1
theorem zero6 : secA [0, 0, 0, 0, 0, 0] = .agg #[.int .i64 0, .int .i64 0, .int .i64 0, .int .i64 0, .int .i64 0, .int .i64 0] := rfl
set_option maxRecDepth 100000 in
set_option maxHeartbeats 4000000 in
theorem next_any {b : Nat} {sv : Value} {mb : Nat} {L : List Tm} {w : World} (h : St w b sv mb L) (i c x : Int) (hl : L.length + 160 ≤ 1048576) :
    Calls Tryz.prog 11 #[.pointer (some ⟨b, 0, none⟩), .int .i64 i, .int .i64 c, .int .i64 x] w fun e w' => e = .returned (.tuple #[secA (nxtV L i c x), .int .i64 (nxtE L i c x)]) ∧ ∃ sv', SStep w w' b sv sv' mb (nxtL L i c x) := by
  obtain ⟨w0, hw0⟩ : ∃ w0, w0 = ((((w.alloc (.cells #[.int .i64 i] 3)).alloc (.cells #[.int .i64 c] 3)).alloc (.cells #[.int .i64 x] 3)).alloc (.cells #[.int .i64 0, .int .i64 0, .int .i64 0, .int .i64 0, .int .i64 0, .int .i64 0] 38)) := ⟨_, rfl⟩
  obtain ⟨y0, y1, y2, y3, x0⟩ := blk4 w (.cells #[.int .i64 i] 3) (.cells #[.int .i64 c] 3) (.cells #[.int .i64 x] 3) (.cells #[.int .i64 0, .int .i64 0, .int .i64 0, .int .i64 0, .int .i64 0, .int .i64 0] 38)
  rw [← hw0] at y0 y1 y2 y3 x0
  have HW := hide hw0
  have S0 : Hid (SStep w w0 b sv sv mb L) := SStep.same h x0
  have KMi := hide (hmissing_any (unhide S0).st)
  have KH : Hid (∀ W, Below w0.heap.size w0 W → ∀ z, Calls Tryz.prog 37 #[.pointer (some ⟨b, 0, none⟩), .int .i64 z] W fun e w' => e = .returned (.bool (thr L.length z)) ∧ Below W.heap.size W w') := fun W hW z => hhas_any ((unhide S0).st.bw hW) z
  have YY : Hid (∀ W, Below w0.heap.size w0 W → W.heap[w.heap.size]? = some (.cells #[.int .i64 i] 3 (0, 0)) ∧ W.heap[w.heap.size + 1]? = some (.cells #[.int .i64 c] 3 (0, 0)) ∧ W.heap[w.heap.size + 1 + 1]? = some (.cells #[.int .i64 x] 3 (0, 0)) ∧ W.heap[w.heap.size + 1 + 1 + 1]? = some (.cells #[.int .i64 0, .int .i64 0, .int .i64 0, .int .i64 0, .int .i64 0, .int .i64 0] 38 (0, 0)) ∧ SStep w W b sv sv mb L) := fun W hW => ⟨kept_blk y0 hW, kept_blk y1 hW, kept_blk y2 hW, kept_blk y3 hW, (unhide S0).after hW⟩
  clear hw0 y0 y1 y2 y3
  cases t0 : thr L.length i
  · have e1 : nx3 L i c x = false := by unfold nx3; simp [t0]
    unfold nxtL nxtV nxtE
    rw [e1]
    simp only [Bool.false_eq_true, if_false, zero6]
    clear e1 h hl x0 S0
    go_enter Tryz.func11, Tryz.ntmps11
    go_upto_region 1 with fail
    rw [← unhide HW]
    clear HW
    go_wp2_with fail
    refine (unhide KMi).mono ?_
    rintro e z0 ⟨rfl, rfl⟩
    clear KMi
    have B0 : Below z0.heap.size z0 z0 := Below.refl _ _
    obtain ⟨c0_0, -, -, -, -⟩ := unhide YY _ B0
    have d0 := blk_cell (i := 0) c0_0 rfl
    have KQ := hide (unhide KH _ B0 i)
    rw [t0] at KQ
    clear c0_0
    go_wp2_with fail
    refine (unhide KQ).mono ?_
    rintro e z1 ⟨rfl, y⟩
    have B1 := bw_tr B0 y
    clear KQ y d0 B0
    obtain ⟨-, -, -, k9, s9⟩ := unhide YY _ B1
    have S9 := hide s9
    clear s9 YY KH B1 t0
    have h0 := blk_cell (i := 0) k9 rfl
    have h1 := blk_cell (i := 1) k9 rfl
    have h2 := blk_cell (i := 2) k9 rfl
    have h3 := blk_cell (i := 3) k9 rfl
    have h4 := blk_cell (i := 4) k9 rfl
    have h5 := blk_cell (i := 5) k9 rfl
    have hf := fun i => blk_froz (i := i) k9
    go_wp2_with fail
    obtain ⟨SV, bV⟩ := (unhide S9).six k9 (by decide) (by decide) (by omega) (.int .i64 0) (.int .i64 0) (.int .i64 0) (.int .i64 0) (.int .i64 0) (.int .i64 0)
    generalize ((((((z1.setCell ⟨w.heap.size + 1 + 1 + 1, 0, none⟩ (.int .i64 0)).setCell ⟨w.heap.size + 1 + 1 + 1, 1, none⟩ (.int .i64 0)).setCell ⟨w.heap.size + 1 + 1 + 1, 2, none⟩ (.int .i64 0)).setCell ⟨w.heap.size + 1 + 1 + 1, 3, none⟩ (.int .i64 0)).setCell ⟨w.heap.size + 1 + 1 + 1, 4, none⟩ (.int .i64 0)).setCell ⟨w.heap.size + 1 + 1 + 1, 5, none⟩ (.int .i64 0)) = V at SV bV ⊢
    have g0 := blk_cell (i := 0) bV rfl
    have g1 := blk_cell (i := 1) bV rfl
    have g2 := blk_cell (i := 2) bV rfl
    have g3 := blk_cell (i := 3) bV rfl
    have g4 := blk_cell (i := 4) bV rfl
    have g5 := blk_cell (i := 5) bV rfl
    have HSV := hide SV
    clear SV bV k9 h0 h1 h2 h3 h4 h5 hf S9
    exact bodyPost_ret (v := .tuple #[.agg #[.int .i64 0, .int .i64 0, .int .i64 0, .int .i64 0, .int .i64 0, .int .i64 0], .int .i64 1]) (by simp [results, Tryz.results11, go_sem, g0, g1, g2, g3, g4, g5]) rfl ⟨rfl, sv, unhide HSV⟩
  cases t1 : thr L.length c
  · have e1 : nx3 L i c x = false := by unfold nx3; simp [t0, t1]
    unfold nxtL nxtV nxtE
    rw [e1]
    simp only [Bool.false_eq_true, if_false, zero6]
    clear e1 h hl x0 S0
    go_enter Tryz.func11, Tryz.ntmps11
    go_upto_region 1 with fail
    rw [← unhide HW]
    clear HW
    go_wp2_with fail
    refine (unhide KMi).mono ?_
    rintro e z0 ⟨rfl, rfl⟩
    clear KMi
    have B0 : Below z0.heap.size z0 z0 := Below.refl _ _
    obtain ⟨c0_0, -, -, -, -⟩ := unhide YY _ B0
    have d0 := blk_cell (i := 0) c0_0 rfl
    have KQ := hide (unhide KH _ B0 i)
    rw [t0] at KQ
    clear c0_0
    go_wp2_with fail
    refine (unhide KQ).mono ?_
    rintro e z1 ⟨rfl, y⟩
    have B1 := bw_tr B0 y
    clear KQ y d0 B0
    obtain ⟨-, c1_1, -, -, -⟩ := unhide YY _ B1
    have d1 := blk_cell (i := 0) c1_1 rfl
    have KQ := hide (unhide KH _ B1 c)
    rw [t1] at KQ
    clear c1_1
    go_wp2_with fail
    refine (unhide KQ).mono ?_
    rintro e z2 ⟨rfl, y⟩
    have B2 := bw_tr B1 y
    clear KQ y d1 B1
    obtain ⟨-, -, -, k9, s9⟩ := unhide YY _ B2
    have S9 := hide s9
    clear s9 YY KH B2 t0 t1
    have h0 := blk_cell (i := 0) k9 rfl
    have h1 := blk_cell (i := 1) k9 rfl
    have h2 := blk_cell (i := 2) k9 rfl
    have h3 := blk_cell (i := 3) k9 rfl
    have h4 := blk_cell (i := 4) k9 rfl
    have h5 := blk_cell (i := 5) k9 rfl
    have hf := fun i => blk_froz (i := i) k9
    go_wp2_with fail
    obtain ⟨SV, bV⟩ := (unhide S9).six k9 (by decide) (by decide) (by omega) (.int .i64 0) (.int .i64 0) (.int .i64 0) (.int .i64 0) (.int .i64 0) (.int .i64 0)
    generalize ((((((z2.setCell ⟨w.heap.size + 1 + 1 + 1, 0, none⟩ (.int .i64 0)).setCell ⟨w.heap.size + 1 + 1 + 1, 1, none⟩ (.int .i64 0)).setCell ⟨w.heap.size + 1 + 1 + 1, 2, none⟩ (.int .i64 0)).setCell ⟨w.heap.size + 1 + 1 + 1, 3, none⟩ (.int .i64 0)).setCell ⟨w.heap.size + 1 + 1 + 1, 4, none⟩ (.int .i64 0)).setCell ⟨w.heap.size + 1 + 1 + 1, 5, none⟩ (.int .i64 0)) = V at SV bV ⊢
    have g0 := blk_cell (i := 0) bV rfl
    have g1 := blk_cell (i := 1) bV rfl
    have g2 := blk_cell (i := 2) bV rfl
    have g3 := blk_cell (i := 3) bV rfl
    have g4 := blk_cell (i := 4) bV rfl
    have g5 := blk_cell (i := 5) bV rfl
    have HSV := hide SV
    clear SV bV k9 h0 h1 h2 h3 h4 h5 hf S9
    exact bodyPost_ret (v := .tuple #[.agg #[.int .i64 0, .int .i64 0, .int .i64 0, .int .i64 0, .int .i64 0, .int .i64 0], .int .i64 1]) (by simp [results, Tryz.results11, go_sem, g0, g1, g2, g3, g4, g5]) rfl ⟨rfl, sv, unhide HSV⟩
  cases t2 : thr L.length x
  · have e1 : nx3 L i c x = false := by unfold nx3; simp [t0, t1, t2]
    unfold nxtL nxtV nxtE
    rw [e1]
    simp only [Bool.false_eq_true, if_false, zero6]
    clear e1 h hl x0 S0
    go_enter Tryz.func11, Tryz.ntmps11
    go_upto_region 1 with fail
    rw [← unhide HW]
    clear HW
    go_wp2_with fail
    refine (unhide KMi).mono ?_
    rintro e z0 ⟨rfl, rfl⟩
    clear KMi
    have B0 : Below z0.heap.size z0 z0 := Below.refl _ _
    obtain ⟨c0_0, -, -, -, -⟩ := unhide YY _ B0
    have d0 := blk_cell (i := 0) c0_0 rfl
    have KQ := hide (unhide KH _ B0 i)
    rw [t0] at KQ
    clear c0_0
    go_wp2_with fail
    refine (unhide KQ).mono ?_
    rintro e z1 ⟨rfl, y⟩
    have B1 := bw_tr B0 y
    clear KQ y d0 B0
    obtain ⟨-, c1_1, -, -, -⟩ := unhide YY _ B1
    have d1 := blk_cell (i := 0) c1_1 rfl
    have KQ := hide (unhide KH _ B1 c)
    rw [t1] at KQ
    clear c1_1
    go_wp2_with fail
    refine (unhide KQ).mono ?_
    rintro e z2 ⟨rfl, y⟩
    have B2 := bw_tr B1 y
    clear KQ y d1 B1
    obtain ⟨-, -, c2_2, -, -⟩ := unhide YY _ B2
    have d2 := blk_cell (i := 0) c2_2 rfl
    have KQ := hide (unhide KH _ B2 x)
    rw [t2] at KQ
    clear c2_2
    go_wp2_with fail
    refine (unhide KQ).mono ?_
    rintro e z3 ⟨rfl, y⟩
    have B3 := bw_tr B2 y
    clear KQ y d2 B2
    obtain ⟨-, -, -, k9, s9⟩ := unhide YY _ B3
    have S9 := hide s9
    clear s9 YY KH B3 t0 t1 t2
    have h0 := blk_cell (i := 0) k9 rfl
    have h1 := blk_cell (i := 1) k9 rfl
    have h2 := blk_cell (i := 2) k9 rfl
    have h3 := blk_cell (i := 3) k9 rfl
    have h4 := blk_cell (i := 4) k9 rfl
    have h5 := blk_cell (i := 5) k9 rfl
    have hf := fun i => blk_froz (i := i) k9
    go_wp2_with fail
    obtain ⟨SV, bV⟩ := (unhide S9).six k9 (by decide) (by decide) (by omega) (.int .i64 0) (.int .i64 0) (.int .i64 0) (.int .i64 0) (.int .i64 0) (.int .i64 0)
    generalize ((((((z3.setCell ⟨w.heap.size + 1 + 1 + 1, 0, none⟩ (.int .i64 0)).setCell ⟨w.heap.size + 1 + 1 + 1, 1, none⟩ (.int .i64 0)).setCell ⟨w.heap.size + 1 + 1 + 1, 2, none⟩ (.int .i64 0)).setCell ⟨w.heap.size + 1 + 1 + 1, 3, none⟩ (.int .i64 0)).setCell ⟨w.heap.size + 1 + 1 + 1, 4, none⟩ (.int .i64 0)).setCell ⟨w.heap.size + 1 + 1 + 1, 5, none⟩ (.int .i64 0)) = V at SV bV ⊢
    have g0 := blk_cell (i := 0) bV rfl
    have g1 := blk_cell (i := 1) bV rfl
    have g2 := blk_cell (i := 2) bV rfl
    have g3 := blk_cell (i := 3) bV rfl
    have g4 := blk_cell (i := 4) bV rfl
    have g5 := blk_cell (i := 5) bV rfl
    have HSV := hide SV
    clear SV bV k9 h0 h1 h2 h3 h4 h5 hf S9
    exact bodyPost_ret (v := .tuple #[.agg #[.int .i64 0, .int .i64 0, .int .i64 0, .int .i64 0, .int .i64 0, .int .i64 0], .int .i64 1]) (by simp [results, Tryz.results11, go_sem, g0, g1, g2, g3, g4, g5]) rfl ⟨rfl, sv, unhide HSV⟩
  have e1 : nx3 L i c x = true := by unfold nx3; simp [t0, t1, t2]
  unfold nxtL nxtV nxtE
  rw [e1]
  simp only [if_true]
  clear e1
  obtain ⟨a0, a1, a2, a3, a4, a5, ha⟩ : ∃ a0 a1 a2 a3 a4 a5, secV (nxL L i c) (nxJ L i c : Nat) x = [a0, a1, a2, a3, a4, a5] := ⟨_, _, _, _, _, _, rfl⟩
  rw [ha, secA6]
  have KA : Hid (∀ W, Below w0.heap.size w0 W → Calls Tryz.prog 38 #[.pointer (some ⟨b, 0, none⟩), .int .i64 160, .func (.func 39) #[] #[.pointer (some ⟨w.heap.size, 0, none⟩), .pointer (some ⟨w.heap.size + 1, 0, none⟩), .pointer (some ⟨w.heap.size + 1 + 1, 0, none⟩)]] W fun e w' => e = .returned (.tuple #[.agg #[.int .i64 a0, .int .i64 a1, .int .i64 a2, .int .i64 a3, .int .i64 a4, .int .i64 a5], .int .i64 0]) ∧ ∃ sv', SStep W w' b sv sv' mb (secL (nxL L i c) (nxJ L i c : Nat) x)) := fun W hW => aonS_next (unhide YY W hW).2.2.2.2.st hl (w.heap.size) (w.heap.size + 1) (w.heap.size + 1 + 1) a0 a1 a2 a3 a4 a5 (fun V hV => next1_any ((unhide YY _ (bw_tr hW hV)).2.2.2.2.st) i c x t0 t1 t2 (by omega) (w.heap.size) (w.heap.size + 1) (w.heap.size + 1 + 1) (blk_cell (unhide YY _ (bw_tr hW hV)).1 rfl) (blk_cell (unhide YY _ (bw_tr hW hV)).2.1 rfl) (unhide YY _ (bw_tr hW hV)).2.2.1 a0 a1 a2 a3 a4 a5 ha)
  clear h hl x0 S0 ha
  go_enter Tryz.func11, Tryz.ntmps11
  go_upto_region 1 with fail
  rw [← unhide HW]
  clear HW
  go_wp2_with fail
  refine (unhide KMi).mono ?_
  rintro e z0 ⟨rfl, rfl⟩
  clear KMi
  have B0 : Below z0.heap.size z0 z0 := Below.refl _ _
  obtain ⟨c0_0, -, -, -, -⟩ := unhide YY _ B0
  have d0 := blk_cell (i := 0) c0_0 rfl
  have KQ := hide (unhide KH _ B0 i)
  rw [t0] at KQ
  clear c0_0
  go_wp2_with fail
  refine (unhide KQ).mono ?_
  rintro e z1 ⟨rfl, y⟩
  have B1 := bw_tr B0 y
  clear KQ y d0 B0
  obtain ⟨-, c1_1, -, -, -⟩ := unhide YY _ B1
  have d1 := blk_cell (i := 0) c1_1 rfl
  have KQ := hide (unhide KH _ B1 c)
  rw [t1] at KQ
  clear c1_1
  go_wp2_with fail
  refine (unhide KQ).mono ?_
  rintro e z2 ⟨rfl, y⟩
  have B2 := bw_tr B1 y
  clear KQ y d1 B1
  obtain ⟨-, -, c2_2, -, -⟩ := unhide YY _ B2
  have d2 := blk_cell (i := 0) c2_2 rfl
  have KQ := hide (unhide KH _ B2 x)
  rw [t2] at KQ
  clear c2_2
  go_wp2_with fail
  refine (unhide KQ).mono ?_
  rintro e z3 ⟨rfl, y⟩
  have B3 := bw_tr B2 y
  clear KQ y d2 B2
  obtain ⟨-, -, -, k8, s8⟩ := unhide YY _ B3
  have KB := hide (unhide KA _ B3)
  have S8 := hide s8
  clear s8 YY KH B3 KA t0 t1 t2
  go_wp2_with fail
  refine (unhide KB).mono ?_
  rintro e w9 ⟨rfl, sv9, s9⟩
  have S9 := hide ((unhide S8).trans s9)
  have k9 := kept_fr k8 (unhide S8).st s9.fr (by decide) (by decide)
  clear s9 S8 k8 KB
  have h0 := blk_cell (i := 0) k9 rfl
  have h1 := blk_cell (i := 1) k9 rfl
  have h2 := blk_cell (i := 2) k9 rfl
  have h3 := blk_cell (i := 3) k9 rfl
  have h4 := blk_cell (i := 4) k9 rfl
  have h5 := blk_cell (i := 5) k9 rfl
  have hf := fun i => blk_froz (i := i) k9
  go_wp2_with fail
  obtain ⟨SV, bV⟩ := (unhide S9).six k9 (by decide) (by decide) (by omega) (.int .i64 a0) (.int .i64 a1) (.int .i64 a2) (.int .i64 a3) (.int .i64 a4) (.int .i64 a5)
  generalize ((((((w9.setCell ⟨w.heap.size + 1 + 1 + 1, 0, none⟩ (.int .i64 a0)).setCell ⟨w.heap.size + 1 + 1 + 1, 1, none⟩ (.int .i64 a1)).setCell ⟨w.heap.size + 1 + 1 + 1, 2, none⟩ (.int .i64 a2)).setCell ⟨w.heap.size + 1 + 1 + 1, 3, none⟩ (.int .i64 a3)).setCell ⟨w.heap.size + 1 + 1 + 1, 4, none⟩ (.int .i64 a4)).setCell ⟨w.heap.size + 1 + 1 + 1, 5, none⟩ (.int .i64 a5)) = V at SV bV ⊢
  have g0 := blk_cell (i := 0) bV rfl
  have g1 := blk_cell (i := 1) bV rfl
  have g2 := blk_cell (i := 2) bV rfl
  have g3 := blk_cell (i := 3) bV rfl
  have g4 := blk_cell (i := 4) bV rfl
  have g5 := blk_cell (i := 5) bV rfl
  have HSV := hide SV
  clear SV bV k9 h0 h1 h2 h3 h4 h5 hf S9
  exact bodyPost_ret (v := .tuple #[.agg #[.int .i64 a0, .int .i64 a1, .int .i64 a2, .int .i64 a3, .int .i64 a4, .int .i64 a5], .int .i64 0]) (by simp [results, Tryz.results11, go_sem, g0, g1, g2, g3, g4, g5]) rfl ⟨rfl, sv9, unhide HSV⟩
set_option maxRecDepth 100000 in
set_option maxHeartbeats 4000000 in
theorem from_any {b : Nat} {sv : Value} {mb : Nat} {L : List Tm} {w : World} (h : St w b sv mb L) (j x : Int) (hl : L.length + 160 ≤ 1048576) :
    Calls Tryz.prog 13 #[.pointer (some ⟨b, 0, none⟩), .int .i64 j, .int .i64 x] w fun e w' => e = .returned (.tuple #[secA (frV L j x), .int .i64 (frE L j x)]) ∧ ∃ sv', SStep w w' b sv sv' mb (frL L j x) := by
  obtain ⟨w0, hw0⟩ : ∃ w0, w0 = (((w.alloc (.cells #[.int .i64 j] 3)).alloc (.cells #[.int .i64 x] 3)).alloc (.cells #[.int .i64 0, .int .i64 0, .int .i64 0, .int .i64 0, .int .i64 0, .int .i64 0] 38)) := ⟨_, rfl⟩
  obtain ⟨y0, y1, y2, x0⟩ := blk3 w (.cells #[.int .i64 j] 3) (.cells #[.int .i64 x] 3) (.cells #[.int .i64 0, .int .i64 0, .int .i64 0, .int .i64 0, .int .i64 0, .int .i64 0] 38)
  rw [← hw0] at y0 y1 y2 x0
  have HW := hide hw0
  have S0 : Hid (SStep w w0 b sv sv mb L) := SStep.same h x0
  have KMi := hide (hmissing_any (unhide S0).st)
  have KH : Hid (∀ W, Below w0.heap.size w0 W → ∀ z, Calls Tryz.prog 37 #[.pointer (some ⟨b, 0, none⟩), .int .i64 z] W fun e w' => e = .returned (.bool (thr L.length z)) ∧ Below W.heap.size W w') := fun W hW z => hhas_any ((unhide S0).st.bw hW) z
  have YY : Hid (∀ W, Below w0.heap.size w0 W → W.heap[w.heap.size]? = some (.cells #[.int .i64 j] 3 (0, 0)) ∧ W.heap[w.heap.size + 1]? = some (.cells #[.int .i64 x] 3 (0, 0)) ∧ W.heap[w.heap.size + 1 + 1]? = some (.cells #[.int .i64 0, .int .i64 0, .int .i64 0, .int .i64 0, .int .i64 0, .int .i64 0] 38 (0, 0)) ∧ SStep w W b sv sv mb L) := fun W hW => ⟨kept_blk y0 hW, kept_blk y1 hW, kept_blk y2 hW, (unhide S0).after hW⟩
  clear hw0 y0 y1 y2
  cases t0 : thr L.length j
  · have e1 : fr2 L j x = false := by unfold fr2; simp [t0]
    unfold frL frV frE
    rw [e1]
    simp only [Bool.false_eq_true, if_false, zero6]
    clear e1 h hl x0 S0
    go_enter Tryz.func13, Tryz.ntmps13
    go_upto_region 1 with fail
    rw [← unhide HW]
    clear HW
    go_wp2_with fail
    refine (unhide KMi).mono ?_
    rintro e z0 ⟨rfl, rfl⟩
    clear KMi
    have B0 : Below z0.heap.size z0 z0 := Below.refl _ _
    obtain ⟨c0_0, -, -, -⟩ := unhide YY _ B0
    have d0 := blk_cell (i := 0) c0_0 rfl
    have KQ := hide (unhide KH _ B0 j)
    rw [t0] at KQ
    clear c0_0
    go_wp2_with fail
    refine (unhide KQ).mono ?_
    rintro e z1 ⟨rfl, y⟩
    have B1 := bw_tr B0 y
    clear KQ y d0 B0
    obtain ⟨-, -, k9, s9⟩ := unhide YY _ B1
    have S9 := hide s9
    clear s9 YY KH B1 t0
    have h0 := blk_cell (i := 0) k9 rfl
    have h1 := blk_cell (i := 1) k9 rfl
    have h2 := blk_cell (i := 2) k9 rfl
    have h3 := blk_cell (i := 3) k9 rfl
    have h4 := blk_cell (i := 4) k9 rfl
    have h5 := blk_cell (i := 5) k9 rfl
    have hf := fun i => blk_froz (i := i) k9
    go_wp2_with fail
    obtain ⟨SV, bV⟩ := (unhide S9).six k9 (by decide) (by decide) (by omega) (.int .i64 0) (.int .i64 0) (.int .i64 0) (.int .i64 0) (.int .i64 0) (.int .i64 0)
    generalize ((((((z1.setCell ⟨w.heap.size + 1 + 1, 0, none⟩ (.int .i64 0)).setCell ⟨w.heap.size + 1 + 1, 1, none⟩ (.int .i64 0)).setCell ⟨w.heap.size + 1 + 1, 2, none⟩ (.int .i64 0)).setCell ⟨w.heap.size + 1 + 1, 3, none⟩ (.int .i64 0)).setCell ⟨w.heap.size + 1 + 1, 4, none⟩ (.int .i64 0)).setCell ⟨w.heap.size + 1 + 1, 5, none⟩ (.int .i64 0)) = V at SV bV ⊢
    have g0 := blk_cell (i := 0) bV rfl
    have g1 := blk_cell (i := 1) bV rfl
    have g2 := blk_cell (i := 2) bV rfl
    have g3 := blk_cell (i := 3) bV rfl
    have g4 := blk_cell (i := 4) bV rfl
    have g5 := blk_cell (i := 5) bV rfl
    have HSV := hide SV
    clear SV bV k9 h0 h1 h2 h3 h4 h5 hf S9
    exact bodyPost_ret (v := .tuple #[.agg #[.int .i64 0, .int .i64 0, .int .i64 0, .int .i64 0, .int .i64 0, .int .i64 0], .int .i64 1]) (by simp [results, Tryz.results13, go_sem, g0, g1, g2, g3, g4, g5]) rfl ⟨rfl, sv, unhide HSV⟩
  cases t1 : thr L.length x
  · have e1 : fr2 L j x = false := by unfold fr2; simp [t0, t1]
    unfold frL frV frE
    rw [e1]
    simp only [Bool.false_eq_true, if_false, zero6]
    clear e1 h hl x0 S0
    go_enter Tryz.func13, Tryz.ntmps13
    go_upto_region 1 with fail
    rw [← unhide HW]
    clear HW
    go_wp2_with fail
    refine (unhide KMi).mono ?_
    rintro e z0 ⟨rfl, rfl⟩
    clear KMi
    have B0 : Below z0.heap.size z0 z0 := Below.refl _ _
    obtain ⟨c0_0, -, -, -⟩ := unhide YY _ B0
    have d0 := blk_cell (i := 0) c0_0 rfl
    have KQ := hide (unhide KH _ B0 j)
    rw [t0] at KQ
    clear c0_0
    go_wp2_with fail
    refine (unhide KQ).mono ?_
    rintro e z1 ⟨rfl, y⟩
    have B1 := bw_tr B0 y
    clear KQ y d0 B0
    obtain ⟨-, c1_1, -, -⟩ := unhide YY _ B1
    have d1 := blk_cell (i := 0) c1_1 rfl
    have KQ := hide (unhide KH _ B1 x)
    rw [t1] at KQ
    clear c1_1
    go_wp2_with fail
    refine (unhide KQ).mono ?_
    rintro e z2 ⟨rfl, y⟩
    have B2 := bw_tr B1 y
    clear KQ y d1 B1
    obtain ⟨-, -, k9, s9⟩ := unhide YY _ B2
    have S9 := hide s9
    clear s9 YY KH B2 t0 t1
    have h0 := blk_cell (i := 0) k9 rfl
    have h1 := blk_cell (i := 1) k9 rfl
    have h2 := blk_cell (i := 2) k9 rfl
    have h3 := blk_cell (i := 3) k9 rfl
    have h4 := blk_cell (i := 4) k9 rfl
    have h5 := blk_cell (i := 5) k9 rfl
    have hf := fun i => blk_froz (i := i) k9
    go_wp2_with fail
    obtain ⟨SV, bV⟩ := (unhide S9).six k9 (by decide) (by decide) (by omega) (.int .i64 0) (.int .i64 0) (.int .i64 0) (.int .i64 0) (.int .i64 0) (.int .i64 0)
    generalize ((((((z2.setCell ⟨w.heap.size + 1 + 1, 0, none⟩ (.int .i64 0)).setCell ⟨w.heap.size + 1 + 1, 1, none⟩ (.int .i64 0)).setCell ⟨w.heap.size + 1 + 1, 2, none⟩ (.int .i64 0)).setCell ⟨w.heap.size + 1 + 1, 3, none⟩ (.int .i64 0)).setCell ⟨w.heap.size + 1 + 1, 4, none⟩ (.int .i64 0)).setCell ⟨w.heap.size + 1 + 1, 5, none⟩ (.int .i64 0)) = V at SV bV ⊢
    have g0 := blk_cell (i := 0) bV rfl
    have g1 := blk_cell (i := 1) bV rfl
    have g2 := blk_cell (i := 2) bV rfl
    have g3 := blk_cell (i := 3) bV rfl
    have g4 := blk_cell (i := 4) bV rfl
    have g5 := blk_cell (i := 5) bV rfl
    have HSV := hide SV
    clear SV bV k9 h0 h1 h2 h3 h4 h5 hf S9
    exact bodyPost_ret (v := .tuple #[.agg #[.int .i64 0, .int .i64 0, .int .i64 0, .int .i64 0, .int .i64 0, .int .i64 0], .int .i64 1]) (by simp [results, Tryz.results13, go_sem, g0, g1, g2, g3, g4, g5]) rfl ⟨rfl, sv, unhide HSV⟩
  have e1 : fr2 L j x = true := by unfold fr2; simp [t0, t1]
  unfold frL frV frE
  rw [e1]
  simp only [if_true]
  clear e1
  obtain ⟨a0, a1, a2, a3, a4, a5, ha⟩ : ∃ a0 a1 a2 a3 a4 a5, secV L j x = [a0, a1, a2, a3, a4, a5] := ⟨_, _, _, _, _, _, rfl⟩
  rw [ha, secA6]
  have KA : Hid (∀ W, Below w0.heap.size w0 W → Calls Tryz.prog 38 #[.pointer (some ⟨b, 0, none⟩), .int .i64 160, .func (.func 44) #[] #[.pointer (some ⟨w.heap.size, 0, none⟩), .pointer (some ⟨w.heap.size + 1, 0, none⟩)]] W fun e w' => e = .returned (.tuple #[.agg #[.int .i64 a0, .int .i64 a1, .int .i64 a2, .int .i64 a3, .int .i64 a4, .int .i64 a5], .int .i64 0]) ∧ ∃ sv', SStep W w' b sv sv' mb (secL L j x)) := fun W hW => aonS_from (unhide YY W hW).2.2.2.st hl (w.heap.size) (w.heap.size + 1) a0 a1 a2 a3 a4 a5 (fun V hV => from1_any ((unhide YY _ (bw_tr hW hV)).2.2.2.st) j x t0 t1 (by omega) (w.heap.size) (w.heap.size + 1) (blk_cell (unhide YY _ (bw_tr hW hV)).1 rfl) (blk_cell (unhide YY _ (bw_tr hW hV)).2.1 rfl) a0 a1 a2 a3 a4 a5 ha)
  clear h hl x0 S0 ha
  go_enter Tryz.func13, Tryz.ntmps13
  go_upto_region 1 with fail
  rw [← unhide HW]
  clear HW
  go_wp2_with fail
  refine (unhide KMi).mono ?_
  rintro e z0 ⟨rfl, rfl⟩
  clear KMi
  have B0 : Below z0.heap.size z0 z0 := Below.refl _ _
  obtain ⟨c0_0, -, -, -⟩ := unhide YY _ B0
  have d0 := blk_cell (i := 0) c0_0 rfl
  have KQ := hide (unhide KH _ B0 j)
  rw [t0] at KQ
  clear c0_0
  go_wp2_with fail
  refine (unhide KQ).mono ?_
  rintro e z1 ⟨rfl, y⟩
  have B1 := bw_tr B0 y
  clear KQ y d0 B0
  obtain ⟨-, c1_1, -, -⟩ := unhide YY _ B1
  have d1 := blk_cell (i := 0) c1_1 rfl
  have KQ := hide (unhide KH _ B1 x)
  rw [t1] at KQ
  clear c1_1
  go_wp2_with fail
  refine (unhide KQ).mono ?_
  rintro e z2 ⟨rfl, y⟩
  have B2 := bw_tr B1 y
  clear KQ y d1 B1
  obtain ⟨-, -, k8, s8⟩ := unhide YY _ B2
  have KB := hide (unhide KA _ B2)
  have S8 := hide s8
  clear s8 YY KH B2 KA t0 t1
  go_wp2_with fail
  refine (unhide KB).mono ?_
  rintro e w9 ⟨rfl, sv9, s9⟩
  have S9 := hide ((unhide S8).trans s9)
  have k9 := kept_fr k8 (unhide S8).st s9.fr (by decide) (by decide)
  clear s9 S8 k8 KB
  have h0 := blk_cell (i := 0) k9 rfl
  have h1 := blk_cell (i := 1) k9 rfl
  have h2 := blk_cell (i := 2) k9 rfl
  have h3 := blk_cell (i := 3) k9 rfl
  have h4 := blk_cell (i := 4) k9 rfl
  have h5 := blk_cell (i := 5) k9 rfl
  have hf := fun i => blk_froz (i := i) k9
  go_wp2_with fail
  obtain ⟨SV, bV⟩ := (unhide S9).six k9 (by decide) (by decide) (by omega) (.int .i64 a0) (.int .i64 a1) (.int .i64 a2) (.int .i64 a3) (.int .i64 a4) (.int .i64 a5)
  generalize ((((((w9.setCell ⟨w.heap.size + 1 + 1, 0, none⟩ (.int .i64 a0)).setCell ⟨w.heap.size + 1 + 1, 1, none⟩ (.int .i64 a1)).setCell ⟨w.heap.size + 1 + 1, 2, none⟩ (.int .i64 a2)).setCell ⟨w.heap.size + 1 + 1, 3, none⟩ (.int .i64 a3)).setCell ⟨w.heap.size + 1 + 1, 4, none⟩ (.int .i64 a4)).setCell ⟨w.heap.size + 1 + 1, 5, none⟩ (.int .i64 a5)) = V at SV bV ⊢
  have g0 := blk_cell (i := 0) bV rfl
  have g1 := blk_cell (i := 1) bV rfl
  have g2 := blk_cell (i := 2) bV rfl
  have g3 := blk_cell (i := 3) bV rfl
  have g4 := blk_cell (i := 4) bV rfl
  have g5 := blk_cell (i := 5) bV rfl
  have HSV := hide SV
  clear SV bV k9 h0 h1 h2 h3 h4 h5 hf S9
  exact bodyPost_ret (v := .tuple #[.agg #[.int .i64 a0, .int .i64 a1, .int .i64 a2, .int .i64 a3, .int .i64 a4, .int .i64 a5], .int .i64 0]) (by simp [results, Tryz.results13, go_sem, g0, g1, g2, g3, g4, g5]) rfl ⟨rfl, sv9, unhide HSV⟩
set_option maxRecDepth 100000 in
set_option maxHeartbeats 4000000 in
theorem next_nil (w : World) (i c x : Int) :
    Calls Tryz.prog 11 #[.pointer none, .int .i64 i, .int .i64 c, .int .i64 x] w fun e w' => e = .returned (.tuple #[.agg #[.int .i64 0, .int .i64 0, .int .i64 0, .int .i64 0, .int .i64 0, .int .i64 0], .int .i64 2]) ∧ Below w.heap.size w w' := by
  obtain ⟨w0, hw0⟩ : ∃ w0, w0 = ((((w.alloc (.cells #[.int .i64 i] 3)).alloc (.cells #[.int .i64 c] 3)).alloc (.cells #[.int .i64 x] 3)).alloc (.cells #[.int .i64 0, .int .i64 0, .int .i64 0, .int .i64 0, .int .i64 0, .int .i64 0] 38)) := ⟨_, rfl⟩
  obtain ⟨y0, y1, y2, y3, x0⟩ := blk4 w (.cells #[.int .i64 i] 3) (.cells #[.int .i64 c] 3) (.cells #[.int .i64 x] 3) (.cells #[.int .i64 0, .int .i64 0, .int .i64 0, .int .i64 0, .int .i64 0, .int .i64 0] 38)
  rw [← hw0] at y0 y1 y2 y3 x0
  have HW := hide hw0
  have KMi := hide (hmissing_nil w0)
  clear hw0 y0 y1 y2
  go_enter Tryz.func11, Tryz.ntmps11
  go_upto_region 1 with fail
  rw [← unhide HW]
  clear HW
  go_wp2_with fail
  refine (unhide KMi).mono ?_
  rintro e z0 ⟨rfl, rfl⟩
  clear KMi
  have h0 := blk_cell (i := 0) y3 rfl
  have h1 := blk_cell (i := 1) y3 rfl
  have h2 := blk_cell (i := 2) y3 rfl
  have h3 := blk_cell (i := 3) y3 rfl
  have h4 := blk_cell (i := 4) y3 rfl
  have h5 := blk_cell (i := 5) y3 rfl
  have hf := fun i => blk_froz (i := i) y3
  go_wp2_with fail
  have e0 := poke_blk (i := 0) y3 (.int .i64 0)
  have e1 := poke_blk (i := 1) e0 (.int .i64 0)
  have e2 := poke_blk (i := 2) e1 (.int .i64 0)
  have e3 := poke_blk (i := 3) e2 (.int .i64 0)
  have e4 := poke_blk (i := 4) e3 (.int .i64 0)
  have e5 := poke_blk (i := 5) e4 (.int .i64 0)
  have bb : Below w.heap.size w ((((((z0.setCell ⟨w.heap.size + 1 + 1 + 1, 0, none⟩ (.int .i64 0)).setCell ⟨w.heap.size + 1 + 1 + 1, 1, none⟩ (.int .i64 0)).setCell ⟨w.heap.size + 1 + 1 + 1, 2, none⟩ (.int .i64 0)).setCell ⟨w.heap.size + 1 + 1 + 1, 3, none⟩ (.int .i64 0)).setCell ⟨w.heap.size + 1 + 1 + 1, 4, none⟩ (.int .i64 0)).setCell ⟨w.heap.size + 1 + 1 + 1, 5, none⟩ (.int .i64 0)) := by
    have hk : w.heap.size ≤ w.heap.size + 1 + 1 + 1 := by omega
    exact (((((x0.setCell hk _).setCell hk _).setCell hk _).setCell hk _).setCell hk _).setCell hk _
  generalize ((((((z0.setCell ⟨w.heap.size + 1 + 1 + 1, 0, none⟩ (.int .i64 0)).setCell ⟨w.heap.size + 1 + 1 + 1, 1, none⟩ (.int .i64 0)).setCell ⟨w.heap.size + 1 + 1 + 1, 2, none⟩ (.int .i64 0)).setCell ⟨w.heap.size + 1 + 1 + 1, 3, none⟩ (.int .i64 0)).setCell ⟨w.heap.size + 1 + 1 + 1, 4, none⟩ (.int .i64 0)).setCell ⟨w.heap.size + 1 + 1 + 1, 5, none⟩ (.int .i64 0)) = V at e5 bb ⊢
  have g0 := blk_cell (i := 0) e5 rfl
  have g1 := blk_cell (i := 1) e5 rfl
  have g2 := blk_cell (i := 2) e5 rfl
  have g3 := blk_cell (i := 3) e5 rfl
  have g4 := blk_cell (i := 4) e5 rfl
  have g5 := blk_cell (i := 5) e5 rfl
  clear e5
  exact bodyPost_ret (v := .tuple #[.agg #[.int .i64 0, .int .i64 0, .int .i64 0, .int .i64 0, .int .i64 0, .int .i64 0], .int .i64 2]) (by simp [results, Tryz.results11, go_sem, g0, g1, g2, g3, g4, g5]) rfl ⟨rfl, bb⟩
set_option maxRecDepth 100000 in
set_option maxHeartbeats 4000000 in
theorem from_nil (w : World) (j x : Int) :
    Calls Tryz.prog 13 #[.pointer none, .int .i64 j, .int .i64 x] w fun e w' => e = .returned (.tuple #[.agg #[.int .i64 0, .int .i64 0, .int .i64 0, .int .i64 0, .int .i64 0, .int .i64 0], .int .i64 2]) ∧ Below w.heap.size w w' := by
  obtain ⟨w0, hw0⟩ : ∃ w0, w0 = (((w.alloc (.cells #[.int .i64 j] 3)).alloc (.cells #[.int .i64 x] 3)).alloc (.cells #[.int .i64 0, .int .i64 0, .int .i64 0, .int .i64 0, .int .i64 0, .int .i64 0] 38)) := ⟨_, rfl⟩
  obtain ⟨y0, y1, y2, x0⟩ := blk3 w (.cells #[.int .i64 j] 3) (.cells #[.int .i64 x] 3) (.cells #[.int .i64 0, .int .i64 0, .int .i64 0, .int .i64 0, .int .i64 0, .int .i64 0] 38)
  rw [← hw0] at y0 y1 y2 x0
  have HW := hide hw0
  have KMi := hide (hmissing_nil w0)
  clear hw0 y0 y1
  go_enter Tryz.func13, Tryz.ntmps13
  go_upto_region 1 with fail
  rw [← unhide HW]
  clear HW
  go_wp2_with fail
  refine (unhide KMi).mono ?_
  rintro e z0 ⟨rfl, rfl⟩
  clear KMi
  have h0 := blk_cell (i := 0) y2 rfl
  have h1 := blk_cell (i := 1) y2 rfl
  have h2 := blk_cell (i := 2) y2 rfl
  have h3 := blk_cell (i := 3) y2 rfl
  have h4 := blk_cell (i := 4) y2 rfl
  have h5 := blk_cell (i := 5) y2 rfl
  have hf := fun i => blk_froz (i := i) y2
  go_wp2_with fail
  have e0 := poke_blk (i := 0) y2 (.int .i64 0)
  have e1 := poke_blk (i := 1) e0 (.int .i64 0)
  have e2 := poke_blk (i := 2) e1 (.int .i64 0)
  have e3 := poke_blk (i := 3) e2 (.int .i64 0)
  have e4 := poke_blk (i := 4) e3 (.int .i64 0)
  have e5 := poke_blk (i := 5) e4 (.int .i64 0)
  have bb : Below w.heap.size w ((((((z0.setCell ⟨w.heap.size + 1 + 1, 0, none⟩ (.int .i64 0)).setCell ⟨w.heap.size + 1 + 1, 1, none⟩ (.int .i64 0)).setCell ⟨w.heap.size + 1 + 1, 2, none⟩ (.int .i64 0)).setCell ⟨w.heap.size + 1 + 1, 3, none⟩ (.int .i64 0)).setCell ⟨w.heap.size + 1 + 1, 4, none⟩ (.int .i64 0)).setCell ⟨w.heap.size + 1 + 1, 5, none⟩ (.int .i64 0)) := by
    have hk : w.heap.size ≤ w.heap.size + 1 + 1 := by omega
    exact (((((x0.setCell hk _).setCell hk _).setCell hk _).setCell hk _).setCell hk _).setCell hk _
  generalize ((((((z0.setCell ⟨w.heap.size + 1 + 1, 0, none⟩ (.int .i64 0)).setCell ⟨w.heap.size + 1 + 1, 1, none⟩ (.int .i64 0)).setCell ⟨w.heap.size + 1 + 1, 2, none⟩ (.int .i64 0)).setCell ⟨w.heap.size + 1 + 1, 3, none⟩ (.int .i64 0)).setCell ⟨w.heap.size + 1 + 1, 4, none⟩ (.int .i64 0)).setCell ⟨w.heap.size + 1 + 1, 5, none⟩ (.int .i64 0)) = V at e5 bb ⊢
  have g0 := blk_cell (i := 0) e5 rfl
  have g1 := blk_cell (i := 1) e5 rfl
  have g2 := blk_cell (i := 2) e5 rfl
  have g3 := blk_cell (i := 3) e5 rfl
  have g4 := blk_cell (i := 4) e5 rfl
  have g5 := blk_cell (i := 5) e5 rfl
  clear e5
  exact bodyPost_ret (v := .tuple #[.agg #[.int .i64 0, .int .i64 0, .int .i64 0, .int .i64 0, .int .i64 0, .int .i64 0], .int .i64 2]) (by simp [results, Tryz.results13, go_sem, g0, g1, g2, g3, g4, g5]) rfl ⟨rfl, bb⟩
end Go.Proofs.YtcbafeneaoaglaaGreatDoor.Tn

/- Contracts of the document's List and Data. -/
namespace Go.Proofs.YtcbafeneaoaglaaGreatDoor.Tn
open Go.RowKit Go.Maps

theorem rls_step {p : List Tm × Int × Int} {L' : List Tm} {n e : Int} {w w' : World} {b : Nat} {sv sv' : Value} (h : p = (L', n, e)) (k : RStep w w' b sv sv' L') : RStep w w' b sv sv' p.1 := by subst h; exact k
theorem NRow.rfoot {B : Nat} {w : World} {v : Value} {l : List Nat} {b : Nat} {sv : Value} {L : List Tm} (h : NRow B w v l) (hs : Rs w b sv L) : ∀ k, v.ownBlock = some k → k ∉ rfoot b sv := by
  intro k hk c
  obtain ⟨cur, hc⟩ := h.block hk
  rcases mem_rfoot.1 c with rfl | c
  · have := hs.blk; rw [hc] at this; simp at this
  · exact rows_apart hs.row h c hk
theorem RStep.rbeside {w w4 w5 : World} {b : Nat} {sv sv2 : Value} {L : List Tm} {nv : Value} {acc : List Nat} {ob : Obj} (h : RStep w w4 b sv sv2 L) (hn : NRow w.heap.size w4 nv acc) (hg : (w4.alloc ob).grownBy w5 nv.ownBlock) : RStep w w5 b sv sv2 L := by
  have f1 : Fr nv.ownBlock.toList w4 w5 := ((Fr.refl nv.ownBlock.toList w4).alloc ob).tr (Fr.ofGrown hg)
  have hd := hn.rfoot h.st
  refine ⟨h.st.keep f1 (fun x hx c => hd x (by simpa using c) hx), ?_, h.place⟩
  exact h.fr.trans f1 (fun _ _ c => c) (fun x hx c => by have := (hn.lt x (by simpa using c)).1; omega)

set_option maxRecDepth 100000 in
set_option maxHeartbeats 4000000 in
theorem rlist_any (b : Nat) (sv : Value) (L : List Tm) (v : Value) (l : List Int) (w : World) (h : Rs w b sv L) (hv : NIs w v l) (hsep : l ≠ [] → ∀ k, v.ownBlock = some k → k ∉ rfoot b sv) :
    Calls Tryz.prog 36 #[.pointer (some ⟨b, 0, none⟩), v] w fun e w' => e = .returned (.tuple #[.int .i64 (ls L l).2.1, .int .i64 (ls L l).2.2]) ∧ ∃ sv', RStep w w' b sv sv' (ls L l).1 := by
  have KH := fun x => there_any b sv L x w h
  have hv' := hv
  obtain ⟨a, cap, rfl, hl, hz, hc⟩ := hv'
  obtain ⟨N, hN⟩ : ∃ N, N = l.length := ⟨_, rfl⟩
  rw [← hN]
  have hNb : (N : Int) ≤ 140737488355328 := by omega
  have HN := hide hN
  have HH := hide h
  have HV := hide hv
  have HKH := hide KH
  clear hN hl h hv KH
  go_enter Tryz.func36, Tryz.ntmps36
  go_wp2_with fail
  go_loopw [6] (fun iv wr => ∃ k : Nat, k ≤ N ∧ iv = .int .i64 (k : Int) ∧ wr = w ∧ Hid ((l.take k).all (thr L.length) = true)) (fun iv _ => (N - intOf iv).toNat)
  case atStart => exact ⟨0, Nat.zero_le _, rfl, rfl, by simp [Hid]⟩
  case round =>
    obtain ⟨k, hk, rfl, hwr, HA⟩ := hrel
    obtain rfl : w = wr := hwr.symm
    by_cases hlt : k < N
    · obtain ⟨z, hzk⟩ : ∃ z, l[k]? = some z := ⟨_, List.getElem?_eq_getElem (by rw [← unhide HN]; exact hlt)⟩
      rcases hc with hc | ⟨g, o, rfl, hc⟩
      · rw [hc] at hzk; simp at hzk
      · have cz := hc k z hzk
        have KZ := unhide HKH z
        cases ht : thr L.length z
        · have e : ls L l = (L, 0, 1) := by
            unfold ls
            rw [if_neg]
            intro c
            have := List.all_eq_true.1 c z (List.mem_of_getElem? hzk)
            rw [ht] at this; cases this
          rw [ht] at KZ
          have HE := hide e
          clear hzk e ht hc hz
          go_wp2_with fail
          refine KZ.mono ?_
          rintro e w2 ⟨rfl, rfl⟩
          go_wp2_with fail
          go_ret2
          exact ⟨ls_end (unhide HE), _, rls_step (unhide HE) (RStep.refl (unhide HH))⟩
        · have HA' : Hid ((l.take (k + 1)).all (thr L.length) = true) := by
            unfold Hid
            rw [List.take_add_one, hzk]
            simp [ht]
            exact (by simpa using unhide HA)
          rw [ht] at KZ
          clear hzk ht hc hz HA
          go_wp2_with fail
          refine KZ.mono ?_
          rintro e w2 ⟨rfl, rfl⟩
          go_wp2_with fail
          go_roundw
          case rel => exact ⟨k + 1, by omega, by go_num, trivial, HA'⟩
          case measure => simp only [intOf]; omega
    · have hall : l.all (thr L.length) = true := by
        have := unhide HA
        rwa [List.take_of_length_le (by rw [← unhide HN]; omega)] at this
      rcases Nat.eq_zero_or_pos N with h0 | h0
      · have e : ls L l = (L, 0, 0) := by
          have : l = [] := List.length_eq_zero_iff.1 (by rw [← unhide HN]; exact h0)
          subst this; simp [ls]
        have HE := hide e
        subst h0
        clear e hall hc hz hlt HA
        go_wp2_with fail
        go_ret2
        exact ⟨ls_end (unhide HE), _, rls_step (unhide HE) (RStep.refl (unhide HH))⟩
      · obtain ⟨q, hq⟩ : ∃ q, N = q + 1 := ⟨N - 1, by omega⟩
        subst hq
        obtain ⟨n0, hn0⟩ : ∃ z, l[q]? = some z := ⟨_, List.getElem?_eq_getElem (by rw [← unhide HN]; omega)⟩
        have hstart : lsF L (l.take q).reverse n0 = ls L l := by
          have e : l = l.take q ++ [n0] := by
            have e1 : l.take (q + 1) = l := List.take_of_length_le (by rw [← unhide HN]; omega)
            rw [List.take_add_one, hn0] at e1
            exact e1.symm
          unfold ls
          rw [if_pos hall]
          conv => rhs; rw [e]
          rw [List.reverse_append]
          rfl
        rcases hc with hc | ⟨g, o, rfl, hc⟩
        · rw [hc] at hn0; simp at hn0
        have cn := hc q n0 hn0
        have hn0b := hz n0 (List.mem_of_getElem? hn0)
        have HC := hide (And.intro hc hz)
        have HS := hide hstart
        have HSep := hide hsep
        obtain ⟨k', rfl⟩ : ∃ k', k = k' := ⟨k, rfl⟩
        have hqb : (q : Int) ≤ 140737488355328 := by omega
        have hkq : (k : Int) = (q : Int) + 1 := by omega
        clear hall hc hz hn0 hstart HA hsep HKH hNb
        obtain rfl : k = q + 1 := by omega
        clear hk hlt h0 hkq
        go_wp2_with fail
        go_loopw [7, 8] (fun nv iv wq => ∃ (j : Nat) (L' : List Tm) (sv' : Value) (n : Int), j ≤ q ∧ iv = .int .i64 ((j : Int) - 1) ∧ nv = .int .i64 n ∧ (-9223372036854775808 ≤ n ∧ n ≤ 9223372036854775807) ∧ Hid (lsF L' (l.take j).reverse n = ls L l) ∧ RStep w wq b sv sv' L') (fun _ iv _ => (intOf iv + 1).toNat)
        case atStart => exact ⟨q, L, sv, n0, Nat.le_refl _, by go_num, rfl, hn0b, HS, RStep.refl (unhide HH)⟩
        case round =>
          obtain ⟨j, L', sv', n, hj, rfl, rfl, hnb, HF, hst⟩ := hrel
          rcases Nat.eq_zero_or_pos j with hj0 | hj0
          · subst hj0
            have e : ls L l = (L', n, 0) := by have := unhide HF; simpa [lsF] using this.symm
            have HE := hide e
            clear e HF
            go_wp2_with fail
            go_ret2
            exact ⟨ls_end (unhide HE), _, rls_step (unhide HE) hst⟩
          · obtain ⟨j', rfl⟩ : ∃ j', j = j' + 1 := ⟨j - 1, by omega⟩
            obtain ⟨z, hzj⟩ : ∃ z, l[j']? = some z := ⟨_, List.getElem?_eq_getElem (by rw [← unhide HN]; omega)⟩
            have hzb := (unhide HC).2 z (List.mem_of_getElem? hzj)
            have cz : wr.cell? ⟨g, o + j', none⟩ = some (.int .i64 z) := by
              have := (unhide HC).1 j' z hzj
              rw [World.cell?_of_block (w := w) (hst.fr.block g (lt_of_cell this) (unhide HSep (fun c => by rw [c] at hzj; simp at hzj) g rfl))]
              exact this
            have htk : (l.take (j' + 1)).reverse = z :: (l.take j').reverse := by rw [List.take_add_one, hzj]; simp
            have hF := unhide HF
            rw [htk] at hF
            have hok : (⟨3, 0, z, n⟩ : Tm).ok := ⟨by simp, by simp, by simp, by simp, hzb.1, hzb.2, hnb.1, hnb.2⟩
            have KM := rmake_any b sv' L' ⟨3, 0, z, n⟩ _ hst.st hok
            have hG := hst.st.good
            have hNm := mkN_bd hG ⟨3, 0, z, n⟩
            have hjb : (j' : Int) ≤ 140737488355328 := by omega
            have hjq : (j' : Int) < (q : Int) + 1 := by omega
            simp only at KM
            clear htk HF hzj hG
            by_cases he : mkE L' ⟨3, 0, z, n⟩ = 0
            · have HF' : Hid (lsF (mkL L' ⟨3, 0, z, n⟩) (l.take j').reverse (mkN L' ⟨3, 0, z, n⟩ : Nat) = ls L l) := by
                unfold Hid; rw [← hF]; simp [lsF, he]
              rw [he] at KM
              clear he hF
              generalize mkN L' ⟨3, 0, z, n⟩ = n' at *
              generalize mkL L' ⟨3, 0, z, n⟩ = L2 at *
              go_wp2_with fail
              refine KM.mono ?_
              rintro e w4 ⟨rfl, sv2, hst2⟩
              have hst3 := hst.trans hst2
              clear hst2
              go_wp2_with fail
              go_roundw
              case rel => exact ⟨j', L2, sv2, n', by omega, by go_num, rfl, by omega, HF', hst3⟩
              case measure => simp only [intOf]; omega
            · have e : ls L l = (mkL L' ⟨3, 0, z, n⟩, 0, mkE L' ⟨3, 0, z, n⟩) := by rw [← hF]; simp [lsF, he]
              have HE := hide e
              have z1 : (mkE L' ⟨3, 0, z, n⟩ == 0) = false := by simpa using he
              clear e hF
              generalize mkN L' ⟨3, 0, z, n⟩ = n' at *
              generalize mkL L' ⟨3, 0, z, n⟩ = L2 at *
              generalize mkE L' ⟨3, 0, z, n⟩ = e2 at *
              go_wp2_with fail
              refine KM.mono ?_
              rintro e w4 ⟨rfl, sv2, hst2⟩
              have hst3 := hst.trans hst2
              clear hst2
              go_wp2_with fail
              go_ret2
              exact ⟨ls_end (unhide HE), _, rls_step (unhide HE) hst3⟩

end Go.Proofs.YtcbafeneaoaglaaGreatDoor.Tn
