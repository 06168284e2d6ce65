/- The contracts of sched.Next and sched.From. -/
import Derived.Test.YtcbafeneaoaglaaGreatDoorScB
namespace Go.Proofs.YtcbafeneaoaglaaGreatDoor.Tn
open Go.RowKit Go.Maps

def nxP (L : List Tm) (i c : Int) : Nat := mkN L ⟨3, 0, i, c⟩
def nxJ (L : List Tm) (i c : Int) : Nat := mkN (mkL L ⟨3, 0, i, c⟩) ⟨4, 3, (nxP L i c : Nat), 0⟩
def nxL (L : List Tm) (i c : Int) : List Tm := mkL (mkL L ⟨3, 0, i, c⟩) ⟨4, 3, (nxP L i c : Nat), 0⟩
theorem secA6 (a b c d e f : Int) : secA [a, b, c, d, e, f] = .agg #[.int .i64 a, .int .i64 b, .int .i64 c, .int .i64 d, .int .i64 e, .int .i64 f] := rfl
theorem may_pair {N : Nat} {a b : Int} (ha : thr N a = true) (hb : thr N b = true) : may N ⟨3, 0, a, b⟩ = true := by
  unfold may
  simp [ha, hb]
theorem ok_pair {a b : Int} (h : 0 ≤ a ∧ a ≤ 1048577 ∧ 0 ≤ b ∧ b ≤ 1048577) : Tm.ok ⟨3, 0, a, b⟩ := by
  constructor <;> simp <;> omega
theorem heap_size_alloc (w : World) (o : Obj) : (w.alloc o).heap.size = w.heap.size + 1 := by simp
theorem blk_before {w : World} {k : Nat} {o o' : Obj} (h : w.heap[k]? = some o) : (w.alloc o').heap[k]? = some o := by rw [Below.heap_alloc _ _ _ (lt_of_blk h)]; exact h
theorem blk4 (w : World) (o1 o2 o3 o4 : Obj) : (((((w.alloc o1).alloc o2).alloc o3).alloc o4).heap[w.heap.size]? = some o1) ∧ (((((w.alloc o1).alloc o2).alloc o3).alloc o4).heap[w.heap.size + 1]? = some o2) ∧ (((((w.alloc o1).alloc o2).alloc o3).alloc o4).heap[w.heap.size + 1 + 1]? = some o3) ∧ (((((w.alloc o1).alloc o2).alloc o3).alloc o4).heap[w.heap.size + 1 + 1 + 1]? = some o4) ∧ Below w.heap.size w ((((w.alloc o1).alloc o2).alloc o3).alloc o4) := by
  have h1 := heap_alloc_new w o1
  have h2 := heap_alloc_new (w.alloc o1) o2
  have h3 := heap_alloc_new ((w.alloc o1).alloc o2) o3
  have h4 := heap_alloc_new (((w.alloc o1).alloc o2).alloc o3) o4
  simp only [heap_size_alloc] at h1 h2 h3 h4
  exact ⟨blk_before (blk_before (blk_before h1)), blk_before (blk_before h2), blk_before h3, h4, (((bwA' _ _).alloc (by simp) _).alloc (by simp; omega) _).alloc (by simp; omega) _⟩
theorem blk3 (w : World) (o1 o2 o3 : Obj) : ((((w.alloc o1).alloc o2).alloc o3).heap[w.heap.size]? = some o1) ∧ ((((w.alloc o1).alloc o2).alloc o3).heap[w.heap.size + 1]? = some o2) ∧ ((((w.alloc o1).alloc o2).alloc o3).heap[w.heap.size + 1 + 1]? = some o3) ∧ Below w.heap.size w (((w.alloc o1).alloc o2).alloc o3) := by
  have h1 := heap_alloc_new w o1
  have h2 := heap_alloc_new (w.alloc o1) o2
  have h3 := heap_alloc_new ((w.alloc o1).alloc o2) o3
  simp only [heap_size_alloc] at h1 h2 h3
  exact ⟨blk_before (blk_before h1), blk_before h2, h3, ((bwA' _ _).alloc (by simp) _).alloc (by simp; omega) _⟩
set_option maxRecDepth 100000 in
set_option maxHeartbeats 4000000 in
theorem next1_any {b : Nat} {sv : Value} {mb : Nat} {L : List Tm} {w : World} (h : St w b sv mb L) (i c x : Int) (hi : thr L.length i = true) (hc : thr L.length c = true) (hx : thr L.length x = true) (hl : L.length + 10 ≤ 1048576) (p1 p2 p3 : Nat) (c1 : w.cell? ⟨p1, 0, none⟩ = some (.int .i64 i)) (c2 : w.cell? ⟨p2, 0, none⟩ = some (.int .i64 c)) (c3 : w.heap[p3]? = some (.cells #[.int .i64 x] 3 (0, 0))) (a0 a1 a2 a3 a4 a5 : Int) (ha : secV (nxL L i c) (nxJ L i c : Nat) x = [a0, a1, a2, a3, a4, a5]) :
    Calls Tryz.prog 39 #[.func (.func 24) #[.pointer (some ⟨b, 0, none⟩)] #[], .pointer (some ⟨p1, 0, none⟩), .pointer (some ⟨p2, 0, none⟩), .pointer (some ⟨p3, 0, none⟩)] w fun e w' => e = .returned (.tuple #[.agg #[.int .i64 a0, .int .i64 a1, .int .i64 a2, .int .i64 a3, .int .i64 a4, .int .i64 a5], .int .i64 0]) ∧ ∃ sv', SStep w w' b sv sv' mb (secL (nxL L i c) (nxJ L i c : Nat) x) := by
  have hir := thr_rng hi (by omega)
  have hcr := thr_rng hc (by omega)
  obtain ⟨w0, hw0⟩ : ∃ w0, w0 = w.alloc (.cells #[.int .i64 0, .int .i64 0, .int .i64 0, .int .i64 0, .int .i64 0, .int .i64 0] 38) := ⟨_, rfl⟩
  have x0 : Below w.heap.size w w0 := by rw [hw0]; exact bwA' _ _
  have k0 : w0.heap[w.heap.size]? = some (.cells #[.int .i64 0, .int .i64 0, .int .i64 0, .int .i64 0, .int .i64 0, .int .i64 0] 38 (0, 0)) := by rw [hw0]; exact heap_alloc_new _ _
  have HW := hide hw0
  have S0 : Hid (SStep w w0 b sv sv mb L) := SStep.same h x0
  have m1 := may_pair hi hc
  have K1 := hide (make_ok (unhide S0).st 3 0 i c (ok_pair (by omega)) m1 (by omega))
  obtain ⟨P, hP⟩ : ∃ P : Nat, P = nxP L i c := ⟨_, rfl⟩
  obtain ⟨L1, hL1⟩ : ∃ L1, L1 = mkL L ⟨3, 0, i, c⟩ := ⟨_, rfl⟩
  have tP : thr L1.length (P : Int) = true ∧ (P : Int) ≤ 1048577 := by rw [hP, hL1]; exact mkN_thr m1 (by omega)
  have e1 : mkN L ⟨3, 0, i, c⟩ = P := hP.symm
  rw [e1, ← hL1] at K1
  have l1 : L1.length ≤ L.length + 1 := by rw [hL1]; exact mkL_len _ _
  have m2 : may L1.length ⟨4, 3, (P : Int), 0⟩ = true := may_kdf (by omega) tP.1 (Or.inl rfl)
  have o2 : Tm.ok ⟨4, 3, (P : Int), 0⟩ := ok_kdf (by have := thr_iff.1 tP.1; omega)
  obtain ⟨J, hJ⟩ : ∃ J : Nat, J = nxJ L i c := ⟨_, rfl⟩
  obtain ⟨L2, hL2⟩ : ∃ L2, L2 = nxL L i c := ⟨_, rfl⟩
  have e2 : mkN L1 ⟨4, 3, (P : Int), 0⟩ = J := by rw [hJ, hL1, hP]; rfl
  have e3 : mkL L1 ⟨4, 3, (P : Int), 0⟩ = L2 := by rw [hL2, hL1, hP]; rfl
  have tJ : thr L2.length (J : Int) = true ∧ (J : Int) ≤ 1048577 := by rw [← e2, ← e3]; exact mkN_thr m2 (by omega)
  have l2 : L2.length ≤ L1.length + 1 := by rw [← e3]; exact mkL_len _ _
  have l3 : L.length ≤ L2.length := by rw [← e3]; exact Nat.le_trans (by rw [hL1]; exact mkL_le _ _) (mkL_le _ _)
  rw [← hJ, ← hL2] at ha ⊢
  have HM : Hid (∀ W sv', SStep w W b sv sv' mb L1 → Calls Tryz.prog 24 #[.pointer (some ⟨b, 0, none⟩), .agg #[.int .u8 4, .int .i64 3, .int .i64 (P : Int), .int .i64 0]] W fun e w' => e = .returned (.tuple #[.int .i64 (J : Nat), .int .i64 0]) ∧ ∃ sv2, SStep w w' b sv sv2 mb L2 ∧ Fr (foot b sv' mb) W w') := fun W sv' hs => by
    refine (make_ok hs.st 4 3 (P : Int) 0 o2 m2 (by omega)).mono ?_
    rintro e w' ⟨h1, sv2, h2⟩
    rw [e2] at h1
    rw [e3] at h2
    exact ⟨h1, sv2, hs.trans h2, h2.fr⟩
  have HSc : Hid (∀ W sv', SStep w W b sv sv' mb L2 → Calls Tryz.prog 41 #[.func (.func 24) #[.pointer (some ⟨b, 0, none⟩)] #[], .int .i64 (J : Int), .int .i64 x] W fun e w' => e = .returned (.tuple #[.agg #[.int .i64 a0, .int .i64 a1, .int .i64 a2, .int .i64 a3, .int .i64 a4, .int .i64 a5], .int .i64 0]) ∧ ∃ sv2, SStep w w' b sv sv2 mb (secL L2 (J : Nat) x) ∧ Fr (foot b sv' mb) W w') := fun W sv' hs => by
    refine (scsecrets_any hs.st (J : Int) x tJ.1 (Or.inr (thr_mono hx l3)) (by omega)).mono ?_
    rintro e w' ⟨h1, sv2, h2⟩
    rw [ha, secA6] at h1
    exact ⟨h1, sv2, hs.trans h2, h2.fr⟩
  have c1' : w0.cell? ⟨p1, 0, none⟩ = some (.int .i64 i) := by rw [x0.cell (lt_of_cell c1)]; exact c1
  have c2' : w0.cell? ⟨p2, 0, none⟩ = some (.int .i64 c) := by rw [x0.cell (lt_of_cell c2)]; exact c2
  have q0 := kept_blk c3 x0
  clear h hw0 hi hc hx hl hir hcr x0 m1 m2 o2 hP hL1 tP e1 l1 hJ hL2 e2 e3 tJ l2 l3 c1 c2 c3 ha
  go_enter Tryz.func39, Tryz.ntmps39
  go_upto_region 1 with fail
  rw [← unhide HW]
  go_wp2_with fail
  refine (unhide K1).mono ?_
  rintro e w1 ⟨rfl, sv1, s1⟩
  have S1 : Hid (SStep w w1 b sv sv1 mb L1) := (unhide S0).trans s1
  have k1 := kept_fr k0 (unhide S0).st s1.fr (by decide) (by decide)
  have q1 := kept_fr q0 (unhide S0).st s1.fr (by decide) (by decide)
  have KD := hide (scderived_any w1 3 (P : Int) 0)
  clear s1 S0 k0 q0 HW K1 c1' c2'
  go_wp2_with fail
  refine (unhide KD).mono ?_
  rintro e w2 ⟨rfl, y⟩
  have S2 : Hid (SStep w w2 b sv sv1 mb L1) := (unhide S1).after y
  have k2 := kept_blk k1 y
  have q2 := kept_blk q1 y
  have K2 := hide (unhide HM w2 sv1 (unhide S2))
  clear y S1 k1 q1 KD HM
  go_wp2_with fail
  refine (unhide K2).mono ?_
  rintro e w3 ⟨rfl, sv3, s3, f3⟩
  have S3 := hide s3
  have k3 := kept_fr k2 (unhide S2).st f3 (by decide) (by decide)
  have q3 := kept_fr q2 (unhide S2).st f3 (by decide) (by decide)
  have K3 := hide (unhide HSc w3 sv3 (unhide S3))
  have d3 := blk_cell (i := 0) q3 rfl
  clear s3 f3 S2 k2 q2 K2 HSc
  go_wp2_with fail
  refine (unhide K3).mono ?_
  rintro e w4 ⟨rfl, sv4, s4, f4⟩
  have S4 := hide s4
  have k4 := kept_fr k3 (unhide S3).st f4 (by decide) (by decide)
  clear s4 f4 S3 k3 q3 K3 d3
  have h0 := blk_cell (i := 0) k4 rfl
  have h1 := blk_cell (i := 1) k4 rfl
  have h2 := blk_cell (i := 2) k4 rfl
  have h3 := blk_cell (i := 3) k4 rfl
  have h4 := blk_cell (i := 4) k4 rfl
  have h5 := blk_cell (i := 5) k4 rfl
  have hf := fun i => blk_froz (i := i) k4
  go_wp2_with fail
  obtain ⟨SV, bV⟩ := (unhide S4).six k4 (by decide) (by decide) (by omega) (.int .i64 a0) (.int .i64 a1) (.int .i64 a2) (.int .i64 a3) (.int .i64 a4) (.int .i64 a5)
  generalize ((((((w4.setCell ⟨w.heap.size, 0, none⟩ (.int .i64 a0)).setCell ⟨w.heap.size, 1, none⟩ (.int .i64 a1)).setCell ⟨w.heap.size, 2, none⟩ (.int .i64 a2)).setCell ⟨w.heap.size, 3, none⟩ (.int .i64 a3)).setCell ⟨w.heap.size, 4, none⟩ (.int .i64 a4)).setCell ⟨w.heap.size, 5, none⟩ (.int .i64 a5)) = V at SV bV ⊢
  have g0 := blk_cell (i := 0) bV rfl
  have g1 := blk_cell (i := 1) bV rfl
  have g2 := blk_cell (i := 2) bV rfl
  have g3 := blk_cell (i := 3) bV rfl
  have g4 := blk_cell (i := 4) bV rfl
  have g5 := blk_cell (i := 5) bV rfl
  have HSV := hide SV
  clear SV bV k4 h0 h1 h2 h3 h4 h5 hf S4
  exact bodyPost_ret (v := .tuple #[.agg #[.int .i64 a0, .int .i64 a1, .int .i64 a2, .int .i64 a3, .int .i64 a4, .int .i64 a5], .int .i64 0]) (by simp [results, Tryz.results39, go_sem, g0, g1, g2, g3, g4, g5]) rfl ⟨rfl, sv4, unhide HSV⟩

set_option maxRecDepth 100000 in
set_option maxHeartbeats 4000000 in
theorem from1_any {b : Nat} {sv : Value} {mb : Nat} {L : List Tm} {w : World} (h : St w b sv mb L) (j x : Int) (hj : thr L.length j = true) (hx : thr L.length x = true) (hl : L.length + 10 ≤ 1048576) (p1 p2 : Nat) (c1 : w.cell? ⟨p1, 0, none⟩ = some (.int .i64 j)) (c2 : w.cell? ⟨p2, 0, none⟩ = some (.int .i64 x)) (a0 a1 a2 a3 a4 a5 : Int) (ha : secV L j x = [a0, a1, a2, a3, a4, a5]) :
    Calls Tryz.prog 44 #[.func (.func 24) #[.pointer (some ⟨b, 0, none⟩)] #[], .pointer (some ⟨p1, 0, none⟩), .pointer (some ⟨p2, 0, none⟩)] w fun e w' => e = .returned (.tuple #[.agg #[.int .i64 a0, .int .i64 a1, .int .i64 a2, .int .i64 a3, .int .i64 a4, .int .i64 a5], .int .i64 0]) ∧ ∃ sv', SStep w w' b sv sv' mb (secL L j x) := by
  obtain ⟨w0, hw0⟩ : ∃ w0, w0 = w.alloc (.cells #[.int .i64 0, .int .i64 0, .int .i64 0, .int .i64 0, .int .i64 0, .int .i64 0] 38) := ⟨_, rfl⟩
  have x0 : Below w.heap.size w w0 := by rw [hw0]; exact bwA' _ _
  have k0 : w0.heap[w.heap.size]? = some (.cells #[.int .i64 0, .int .i64 0, .int .i64 0, .int .i64 0, .int .i64 0, .int .i64 0] 38 (0, 0)) := by rw [hw0]; exact heap_alloc_new _ _
  have HW := hide hw0
  have S0 : Hid (SStep w w0 b sv sv mb L) := SStep.same h x0
  have K := hide (scsecrets_any (unhide S0).st j x hj (Or.inr hx) (by omega))
  rw [ha, secA6] at K
  have c1' : w0.cell? ⟨p1, 0, none⟩ = some (.int .i64 j) := by rw [x0.cell (lt_of_cell c1)]; exact c1
  have c2' : w0.cell? ⟨p2, 0, none⟩ = some (.int .i64 x) := by rw [x0.cell (lt_of_cell c2)]; exact c2
  clear h hw0 hj hx hl x0 c1 c2 ha
  go_enter Tryz.func44, Tryz.ntmps44
  go_upto_region 1 with fail
  rw [← unhide HW]
  go_wp2_with fail
  refine (unhide K).mono ?_
  rintro e w4 ⟨rfl, sv4, s4⟩
  have S4 := hide ((unhide S0).trans s4)
  have k4 := kept_fr k0 (unhide S0).st s4.fr (by decide) (by decide)
  clear s4 S0 k0 HW K c1' c2'
  have h0 := blk_cell (i := 0) k4 rfl
  have h1 := blk_cell (i := 1) k4 rfl
  have h2 := blk_cell (i := 2) k4 rfl
  have h3 := blk_cell (i := 3) k4 rfl
  have h4 := blk_cell (i := 4) k4 rfl
  have h5 := blk_cell (i := 5) k4 rfl
  have hf := fun i => blk_froz (i := i) k4
  go_wp2_with fail
  obtain ⟨SV, bV⟩ := (unhide S4).six k4 (by decide) (by decide) (by omega) (.int .i64 a0) (.int .i64 a1) (.int .i64 a2) (.int .i64 a3) (.int .i64 a4) (.int .i64 a5)
  generalize ((((((w4.setCell ⟨w.heap.size, 0, none⟩ (.int .i64 a0)).setCell ⟨w.heap.size, 1, none⟩ (.int .i64 a1)).setCell ⟨w.heap.size, 2, none⟩ (.int .i64 a2)).setCell ⟨w.heap.size, 3, none⟩ (.int .i64 a3)).setCell ⟨w.heap.size, 4, none⟩ (.int .i64 a4)).setCell ⟨w.heap.size, 5, none⟩ (.int .i64 a5)) = V at SV bV ⊢
  have g0 := blk_cell (i := 0) bV rfl
  have g1 := blk_cell (i := 1) bV rfl
  have g2 := blk_cell (i := 2) bV rfl
  have g3 := blk_cell (i := 3) bV rfl
  have g4 := blk_cell (i := 4) bV rfl
  have g5 := blk_cell (i := 5) bV rfl
  have HSV := hide SV
  clear SV bV k4 h0 h1 h2 h3 h4 h5 hf S4
  exact bodyPost_ret (v := .tuple #[.agg #[.int .i64 a0, .int .i64 a1, .int .i64 a2, .int .i64 a3, .int .i64 a4, .int .i64 a5], .int .i64 0]) (by simp [results, Tryz.results44, go_sem, g0, g1, g2, g3, g4, g5]) rfl ⟨rfl, sv4, unhide HSV⟩
set_option maxRecDepth 100000 in
set_option maxHeartbeats 4000000 in
theorem aonS_next {b : Nat} {sv : Value} {mb : Nat} {L L' : List Tm} {w : World} (h : St w b sv mb L) (hl : L.length + 160 ≤ 1048576) (p1 p2 p3 : Nat) (a0 a1 a2 a3 a4 a5 : Int)
    (K : ∀ W, Below w.heap.size w W → Calls Tryz.prog 39 #[.func (.func 24) #[.pointer (some ⟨b, 0, none⟩)] #[], .pointer (some ⟨p1, 0, none⟩), .pointer (some ⟨p2, 0, none⟩), .pointer (some ⟨p3, 0, none⟩)] W fun e w' => e = .returned (.tuple #[.agg #[.int .i64 a0, .int .i64 a1, .int .i64 a2, .int .i64 a3, .int .i64 a4, .int .i64 a5], .int .i64 0]) ∧ ∃ sv', SStep W w' b sv sv' mb L') :
    Calls Tryz.prog 38 #[.pointer (some ⟨b, 0, none⟩), .int .i64 160, .func (.func 39) #[] #[.pointer (some ⟨p1, 0, none⟩), .pointer (some ⟨p2, 0, none⟩), .pointer (some ⟨p3, 0, none⟩)]] w fun e w' => e = .returned (.tuple #[.agg #[.int .i64 a0, .int .i64 a1, .int .i64 a2, .int .i64 a3, .int .i64 a4, .int .i64 a5], .int .i64 0]) ∧ ∃ sv', SStep w w' b sv sv' mb L' := by
  obtain ⟨w0, hw0⟩ : ∃ w0, w0 = w.alloc (.cells #[.int .i64 0, .int .i64 0, .int .i64 0, .int .i64 0, .int .i64 0, .int .i64 0] 38) := ⟨_, rfl⟩
  have x0 : Below w.heap.size w w0 := by rw [hw0]; exact bwA' _ _
  have k0 : w0.heap[w.heap.size]? = some (.cells #[.int .i64 0, .int .i64 0, .int .i64 0, .int .i64 0, .int .i64 0, .int .i64 0] 38 (0, 0)) := by rw [hw0]; exact heap_alloc_new _ _
  have HW := hide hw0
  have S0 : Hid (SStep w w0 b sv sv mb L) := SStep.same h x0
  have KL := hide (len_any b sv mb L w0 (unhide S0).st)
  have KF := hide (K w0 x0)
  obtain ⟨N, hN⟩ : ∃ N : Int, N = (L.length : Int) := ⟨_, rfl⟩
  rw [← hN] at KL
  obtain ⟨R, hR⟩ : ∃ R : Int, R = 1048576 - N := ⟨_, rfl⟩
  have r0 : (1048576 : Int) - N = R := hR.symm
  have r1 : IntKind.i64.wrap R = R := by rw [IntKind.wrap_i64]; omega
  have r2 : 0 < R := by omega
  have r3 : decide (R < 160) = false := decide_eq_false (by omega)
  have r4 : 160 ≤ R := by omega
  clear h hl hw0 x0 hN hR K
  go_enter Tryz.func38, Tryz.ntmps38
  go_wp2_with fail
  rw [← unhide HW]
  refine (unhide KL).mono ?_
  rintro e w0 ⟨rfl, rfl⟩
  clear KL HW
  go_wp2_with fail
  refine (unhide KF).mono ?_
  rintro e w4 ⟨rfl, sv4, s4⟩
  have S4 := hide ((unhide S0).trans s4)
  have k4 := kept_fr k0 (unhide S0).st s4.fr (by decide) (by decide)
  clear s4 S0 k0 KF r0 r1 r2 r3 r4
  have h0 := blk_cell (i := 0) k4 rfl
  have h1 := blk_cell (i := 1) k4 rfl
  have h2 := blk_cell (i := 2) k4 rfl
  have h3 := blk_cell (i := 3) k4 rfl
  have h4 := blk_cell (i := 4) k4 rfl
  have h5 := blk_cell (i := 5) k4 rfl
  have hf := fun i => blk_froz (i := i) k4
  go_wp2_with fail
  obtain ⟨SV, bV⟩ := (unhide S4).six k4 (by decide) (by decide) (by omega) (.int .i64 a0) (.int .i64 a1) (.int .i64 a2) (.int .i64 a3) (.int .i64 a4) (.int .i64 a5)
  generalize ((((((w4.setCell ⟨w.heap.size, 0, none⟩ (.int .i64 a0)).setCell ⟨w.heap.size, 1, none⟩ (.int .i64 a1)).setCell ⟨w.heap.size, 2, none⟩ (.int .i64 a2)).setCell ⟨w.heap.size, 3, none⟩ (.int .i64 a3)).setCell ⟨w.heap.size, 4, none⟩ (.int .i64 a4)).setCell ⟨w.heap.size, 5, none⟩ (.int .i64 a5)) = V at SV bV ⊢
  have g0 := blk_cell (i := 0) bV rfl
  have g1 := blk_cell (i := 1) bV rfl
  have g2 := blk_cell (i := 2) bV rfl
  have g3 := blk_cell (i := 3) bV rfl
  have g4 := blk_cell (i := 4) bV rfl
  have g5 := blk_cell (i := 5) bV rfl
  have HSV := hide SV
  clear SV bV k4 h0 h1 h2 h3 h4 h5 hf S4
  exact bodyPost_ret (v := .tuple #[.agg #[.int .i64 a0, .int .i64 a1, .int .i64 a2, .int .i64 a3, .int .i64 a4, .int .i64 a5], .int .i64 0]) (by simp [results, Tryz.results38, go_sem, g0, g1, g2, g3, g4, g5]) rfl ⟨rfl, sv4, unhide HSV⟩
set_option maxRecDepth 100000 in
set_option maxHeartbeats 4000000 in
theorem aonS_from {b : Nat} {sv : Value} {mb : Nat} {L L' : List Tm} {w : World} (h : St w b sv mb L) (hl : L.length + 160 ≤ 1048576) (p1 p2 : Nat) (a0 a1 a2 a3 a4 a5 : Int)
    (K : ∀ W, Below w.heap.size w W → Calls Tryz.prog 44 #[.func (.func 24) #[.pointer (some ⟨b, 0, none⟩)] #[], .pointer (some ⟨p1, 0, none⟩), .pointer (some ⟨p2, 0, none⟩)] W fun e w' => e = .returned (.tuple #[.agg #[.int .i64 a0, .int .i64 a1, .int .i64 a2, .int .i64 a3, .int .i64 a4, .int .i64 a5], .int .i64 0]) ∧ ∃ sv', SStep W w' b sv sv' mb L') :
    Calls Tryz.prog 38 #[.pointer (some ⟨b, 0, none⟩), .int .i64 160, .func (.func 44) #[] #[.pointer (some ⟨p1, 0, none⟩), .pointer (some ⟨p2, 0, none⟩)]] w fun e w' => e = .returned (.tuple #[.agg #[.int .i64 a0, .int .i64 a1, .int .i64 a2, .int .i64 a3, .int .i64 a4, .int .i64 a5], .int .i64 0]) ∧ ∃ sv', SStep w w' b sv sv' mb L' := by
  obtain ⟨w0, hw0⟩ : ∃ w0, w0 = w.alloc (.cells #[.int .i64 0, .int .i64 0, .int .i64 0, .int .i64 0, .int .i64 0, .int .i64 0] 38) := ⟨_, rfl⟩
  have x0 : Below w.heap.size w w0 := by rw [hw0]; exact bwA' _ _
  have k0 : w0.heap[w.heap.size]? = some (.cells #[.int .i64 0, .int .i64 0, .int .i64 0, .int .i64 0, .int .i64 0, .int .i64 0] 38 (0, 0)) := by rw [hw0]; exact heap_alloc_new _ _
  have HW := hide hw0
  have S0 : Hid (SStep w w0 b sv sv mb L) := SStep.same h x0
  have KL := hide (len_any b sv mb L w0 (unhide S0).st)
  have KF := hide (K w0 x0)
  obtain ⟨N, hN⟩ : ∃ N : Int, N = (L.length : Int) := ⟨_, rfl⟩
  rw [← hN] at KL
  obtain ⟨R, hR⟩ : ∃ R : Int, R = 1048576 - N := ⟨_, rfl⟩
  have r0 : (1048576 : Int) - N = R := hR.symm
  have r1 : IntKind.i64.wrap R = R := by rw [IntKind.wrap_i64]; omega
  have r2 : 0 < R := by omega
  have r3 : decide (R < 160) = false := decide_eq_false (by omega)
  have r4 : 160 ≤ R := by omega
  clear h hl hw0 x0 hN hR K
  go_enter Tryz.func38, Tryz.ntmps38
  go_wp2_with fail
  rw [← unhide HW]
  refine (unhide KL).mono ?_
  rintro e w0 ⟨rfl, rfl⟩
  clear KL HW
  go_wp2_with fail
  refine (unhide KF).mono ?_
  rintro e w4 ⟨rfl, sv4, s4⟩
  have S4 := hide ((unhide S0).trans s4)
  have k4 := kept_fr k0 (unhide S0).st s4.fr (by decide) (by decide)
  clear s4 S0 k0 KF r0 r1 r2 r3 r4
  have h0 := blk_cell (i := 0) k4 rfl
  have h1 := blk_cell (i := 1) k4 rfl
  have h2 := blk_cell (i := 2) k4 rfl
  have h3 := blk_cell (i := 3) k4 rfl
  have h4 := blk_cell (i := 4) k4 rfl
  have h5 := blk_cell (i := 5) k4 rfl
  have hf := fun i => blk_froz (i := i) k4
  go_wp2_with fail
  obtain ⟨SV, bV⟩ := (unhide S4).six k4 (by decide) (by decide) (by omega) (.int .i64 a0) (.int .i64 a1) (.int .i64 a2) (.int .i64 a3) (.int .i64 a4) (.int .i64 a5)
  generalize ((((((w4.setCell ⟨w.heap.size, 0, none⟩ (.int .i64 a0)).setCell ⟨w.heap.size, 1, none⟩ (.int .i64 a1)).setCell ⟨w.heap.size, 2, none⟩ (.int .i64 a2)).setCell ⟨w.heap.size, 3, none⟩ (.int .i64 a3)).setCell ⟨w.heap.size, 4, none⟩ (.int .i64 a4)).setCell ⟨w.heap.size, 5, none⟩ (.int .i64 a5)) = V at SV bV ⊢
  have g0 := blk_cell (i := 0) bV rfl
  have g1 := blk_cell (i := 1) bV rfl
  have g2 := blk_cell (i := 2) bV rfl
  have g3 := blk_cell (i := 3) bV rfl
  have g4 := blk_cell (i := 4) bV rfl
  have g5 := blk_cell (i := 5) bV rfl
  have HSV := hide SV
  clear SV bV k4 h0 h1 h2 h3 h4 h5 hf S4
  exact bodyPost_ret (v := .tuple #[.agg #[.int .i64 a0, .int .i64 a1, .int .i64 a2, .int .i64 a3, .int .i64 a4, .int .i64 a5], .int .i64 0]) (by simp [results, Tryz.results38, go_sem, g0, g1, g2, g3, g4, g5]) rfl ⟨rfl, sv4, unhide HSV⟩
end Go.Proofs.YtcbafeneaoaglaaGreatDoor.Tn
