/- A mail's copy (fresh.Mail). -/
import Derived.Test.YtgmlkofogeoocaaGreatDoorZ14
namespace Go.Proofs.YtgmlkofogeoocaaGreatDoor
open Go.RowKit Go.Maps
theorem frCommitS_any {w : World} {c : Cm} {x : Cv} (h : CmR w c x) (hs : SmC c) :
    Calls Tryz.prog 67 #[cmV c x] w fun e w' => ∃ a1' k1' a2' k2' a3' k3' a4' k4' a5' k5' us, e = .returned (cmV c ⟨.slice a1' c.adds.length k1', .slice a2' c.rem.length k2', .slice a3' c.seals.length k3', .slice a4' c.joins.length k4', .slice a5' c.next.length k5'⟩) ∧ OC w.heap.size w' c ⟨.slice a1' c.adds.length k1', .slice a2' c.rem.length k2', .slice a3' c.seals.length k3', .slice a4' c.joins.length k4', .slice a5' c.next.length k5'⟩ us ∧ Below w.heap.size w w' := by
  refine (frCommit_any h hs).mono ?_
  rintro e w' ⟨x', us, rfl, ho, hb⟩
  obtain ⟨a1', k1', e1⟩ := own_slice ho.adds
  obtain ⟨a2', k2', e2⟩ := own_slice ho.rem
  obtain ⟨a3', k3', e3⟩ := own_slice ho.seals
  obtain ⟨a4', k4', e4⟩ := own_slice ho.joins
  obtain ⟨a5', k5', e5⟩ := own_slice ho.next.row
  obtain ⟨av, rv, qv, jv, nv⟩ := x'
  simp only at e1 e2 e3 e4 e5
  subst e1 e2 e3 e4 e5
  exact ⟨a1', k1', a2', k2', a3', k3', a4', k4', a5', k5', us, rfl, ho, hb⟩
theorem frTreeS_any {w : World} {v : Value} {T : List Nd} (h : Trd w v T) (hl : T.length ≤ 1073741824) (hu : ∀ n ∈ T, n.un.length ≤ 1073741824) :
    Calls Tryz.prog 91 #[.agg #[v]] w fun e w' => ∃ a6' k6' ts, e = .returned (.agg #[.slice a6' T.length k6']) ∧ OTr w.heap.size w' (.slice a6' T.length k6') T ts ∧ Below w.heap.size w w' := by
  refine (frTree_any h hl hu).mono ?_
  rintro e w' ⟨v', ts, rfl, ho, hb⟩
  obtain ⟨a6', k6', e6⟩ := own_slice ho.row
  subst e6
  exact ⟨a6', k6', ts, rfl, ho, hb⟩
set_option maxRecDepth 100000 in
set_option maxHeartbeats 4000000 in
theorem frFaceS_any {w : World} {v : Value} {T : List Nd} (h : Trd w v T) (hl : T.length ≤ 1073741824) (hu : ∀ n ∈ T, n.un.length ≤ 1073741824) (n0 n1 n3 : Int) :
    Calls Tryz.prog 68 #[.agg #[.int .i64 n0, .int .i64 n1, v, .int .i64 n3]] w fun e w' => ∃ a6' k6' ts, e = .returned (.agg #[.int .i64 n0, .int .i64 n1, .slice a6' T.length k6', .int .i64 n3]) ∧ OTr w.heap.size w' (.slice a6' T.length k6') T ts ∧ Below w.heap.size w w' := by
  obtain ⟨w0, hw0⟩ : ∃ w0, w0 = (w.alloc (.cells #[.int .i64 n0, .int .i64 n1, v, .int .i64 n3] 46)).alloc (.cells #[.int .i64 0, .int .i64 0, .slice none 0 0, .int .i64 0] 46) := ⟨_, rfl⟩
  have s0 : TwoB w w0 46 #[.int .i64 n0, .int .i64 n1, v, .int .i64 n3] #[.int .i64 0, .int .i64 0, .slice none 0 0, .int .i64 0] := by rw [hw0]; exact TwoB.start _ _ _ _
  have KL := hide (frTreeS_any (h.bw s0.bel) hl hu)
  obtain ⟨a, c, rfl⟩ := h.slice
  have S0 := hide s0
  have HW := hide hw0
  clear h hl hu s0 hw0
  generalize T.length = N at *
  go_enter Tryz.func68, Tryz.ntmps68
  go_upto_region 1 with fail
  rw [← unhide HW]
  clear HW
  have c0 : w0.cell? ⟨w.heap.size, 2, none⟩ = some (.slice a N c) := blk_c (unhide S0).k1 rfl
  go_wp2_with fail
  refine (unhide KL).mono ?_
  rintro e w1 ⟨a6', k6', ts, rfl, ho, b1⟩
  have s1 := (unhide S0).bw b1
  have p2 := s1.poke 2 (.slice a6' N k6')
  have an := p2.1.answer [.int .i64 n0, .int .i64 n1, .slice a6' N k6', .int .i64 n3] rfl
  obtain ⟨WZ, hWZ⟩ : ∃ W, W = pokes (w1.setCell ⟨w.heap.size, 2, none⟩ (.slice a6' N k6')) (w.heap.size + 1) 0 [.int .i64 n0, .int .i64 n1, .slice a6' N k6', .int .i64 n3] := ⟨_, rfl⟩
  rw [← hWZ] at an
  have HO : Hid (OTr w.heap.size WZ (.slice a6' N k6') T ts ∧ Below w.heap.size w WZ) := by
    refine ⟨((ho.owl.keep (fun k hk => ?_)).mono ?_).otr, an.2.1⟩
    · have h1 := (ho.owl.lt k hk).1
      have h2 := (unhide S0).two
      rw [an.2.2 k (by omega)]
      exact p2.2 k (by omega)
    · have h2 := (unhide S0).two; omega
  have q0 : w1.cell? ⟨w.heap.size, 0, none⟩ = some (.int .i64 n0) := blk_c s1.k1 rfl
  have q1 : w1.cell? ⟨w.heap.size, 1, none⟩ = some (.int .i64 n1) := blk_c s1.k1 rfl
  have q2 : w1.cell? ⟨w.heap.size, 2, none⟩ = some (.slice a N c) := blk_c s1.k1 rfl
  have q3 : w1.cell? ⟨w.heap.size, 3, none⟩ = some (.int .i64 n3) := blk_c s1.k1 rfl
  have f1 := fun j => froz_b' (i := j) s1.k1
  have e0 : w1.cell? ⟨w.heap.size + 1, 0, none⟩ = some (.int .i64 0) := blk_c s1.k2 rfl
  have e1 : w1.cell? ⟨w.heap.size + 1, 1, none⟩ = some (.int .i64 0) := blk_c s1.k2 rfl
  have e2 : w1.cell? ⟨w.heap.size + 1, 2, none⟩ = some (.slice none 0 0) := blk_c s1.k2 rfl
  have e3 : w1.cell? ⟨w.heap.size + 1, 3, none⟩ = some (.int .i64 0) := blk_c s1.k2 rfl
  have fe := fun j => froz_b' (i := j) s1.k2
  have z0 : WZ.cell? ⟨w.heap.size + 1, 0, none⟩ = some (.int .i64 n0) := blk_c an.1 rfl
  have z1 : WZ.cell? ⟨w.heap.size + 1, 1, none⟩ = some (.int .i64 n1) := blk_c an.1 rfl
  have z2 : WZ.cell? ⟨w.heap.size + 1, 2, none⟩ = some (.slice a6' N k6') := blk_c an.1 rfl
  have z3 : WZ.cell? ⟨w.heap.size + 1, 3, none⟩ = some (.int .i64 n3) := blk_c an.1 rfl
  have HZ : Hid (WZ = ((((w1.setCell ⟨w.heap.size, 2, none⟩ (.slice a6' N k6')).setCell ⟨w.heap.size + 1, 0, none⟩ (.int .i64 n0)).setCell ⟨w.heap.size + 1, 1, none⟩ (.int .i64 n1)).setCell ⟨w.heap.size + 1, 2, none⟩ (.slice a6' N k6')).setCell ⟨w.heap.size + 1, 3, none⟩ (.int .i64 n3)) := hWZ
  clear S0 KL ho b1 s1 p2 an hWZ
  go_wp2_with fail
  rw [← unhide HZ]
  exact bodyPost_ret (v := .agg #[.int .i64 n0, .int .i64 n1, .slice a6' N k6', .int .i64 n3]) (by simp [results, Tryz.results68, go_sem, z0, z1, z2, z3]) rfl ⟨a6', k6', ts, rfl, (unhide HO).1, (unhide HO).2⟩
theorem TwoB.pokes1 {w W : World} {t : TypeId} {cs zs : Array Value} (h : TwoB w W t cs zs) (i : Nat) (vs : List Value) : TwoB w (pokes W w.heap.size i vs) t (pk cs i vs) zs ∧ ∀ k, w.heap.size + 2 ≤ k → (pokes W w.heap.size i vs).heap[k]? = W.heap[k]? :=
  ⟨⟨pokes_at _ _ _ _ h.k1, by rw [pokes_other (by omega)]; exact h.k2, pokes_below (Nat.le_refl _) _ _ _ h.bel⟩, fun k hk => pokes_other (by omega) _ _ _⟩
set_option maxRecDepth 100000 in
set_option maxHeartbeats 4000000 in
theorem pk30 (c0 c1 c2 c3 c4 c5 c6 c7 c8 c9 c10 c11 c12 c13 c14 c15 c16 c17 c18 c19 c20 c21 c22 c23 c24 c25 c26 c27 c28 c29 n1 n2 n3 n4 n5 n6 n7 n8 n9 n10 n11 n12 n13 n14 n15 n21 n22 n23 n24 : Value) : pk (pk #[c0, c1, c2, c3, c4, c5, c6, c7, c8, c9, c10, c11, c12, c13, c14, c15, c16, c17, c18, c19, c20, c21, c22, c23, c24, c25, c26, c27, c28, c29] 1 [n1, n2, n3, n4, n5, n6, n7, n8, n9, n10, n11, n12, n13, n14, n15]) 21 [n21, n22, n23, n24] = #[c0, n1, n2, n3, n4, n5, n6, n7, n8, n9, n10, n11, n12, n13, n14, n15, c16, c17, c18, c19, c20, n21, n22, n23, n24, c25, c26, c27, c28, c29] := by
  simp only [pk, List.setIfInBounds_toArray, Nat.reduceAdd, List.set_cons_zero, List.set_cons_succ]
set_option maxRecDepth 100000 in
set_option maxHeartbeats 8000000 in
theorem frMail_cut {w w0 zz z2 : World} {g0 g1 g2 g3 g4 g5 g11 g12 g14 g15 g16 g17 g18 g19 g20 g21 g22 g24 g25 g26 g27 g28 g29 : Int} {g6 : Bool} {a1 a2 a3 a4 a5 a6 a1' a2' a3' a4' a5' a6' : Option Addr} {k1 k2 k3 k4 k5 k6 k1' k2' k3' k4' k5' k6' LA LR LQ LJ LN LT : Nat} {adds seals joins : List (List Int)} {rem : List Int} {next tr : List Nd} {us ts : List Value}
    (h2 : w.heap.size + 2 ≤ w0.heap.size) (T1 : TwoB w zz 50 #[.int .u8 g0, .int .i64 g1, .int .i64 g2, .int .i64 g3, .int .i64 g4, .int .i64 g5, .bool g6, .slice a1 LA k1, .slice a2 LR k2, .slice a3 LQ k3, .slice a4 LJ k4, .int .i64 g11, .int .i64 g12, .slice a5 LN k5, .int .i64 g14, .int .i64 g15, .int .i64 g16, .int .i64 g17, .int .i64 g18, .int .i64 g19, .int .i64 g20, .int .i64 g21, .int .i64 g22, .slice a6 LT k6, .int .i64 g24, .int .i64 g25, .int .i64 g26, .int .i64 g27, .int .i64 g28, .int .i64 g29] ml0) (T2 : TwoB w z2 50 #[.int .u8 g0, .int .i64 g1, .int .i64 g2, .int .i64 g3, .int .i64 g4, .int .i64 g5, .bool g6, .slice a1 LA k1, .slice a2 LR k2, .slice a3 LQ k3, .slice a4 LJ k4, .int .i64 g11, .int .i64 g12, .slice a5 LN k5, .int .i64 g14, .int .i64 g15, .int .i64 g16, .int .i64 g17, .int .i64 g18, .int .i64 g19, .int .i64 g20, .int .i64 g21, .int .i64 g22, .slice a6 LT k6, .int .i64 g24, .int .i64 g25, .int .i64 g26, .int .i64 g27, .int .i64 g28, .int .i64 g29] ml0) (ho1 : OC w0.drew.heap.size zz ⟨g1, g2, g3, g4, g5, g6, adds, rem, seals, joins, g11, g12, next, g14, g15⟩ ⟨.slice a1' LA k1', .slice a2' LR k2', .slice a3' LQ k3', .slice a4' LJ k4', .slice a5' LN k5'⟩ us) (ho2 : OTr zz.heap.size z2 (.slice a6' LT k6') tr ts) (b2 : Below zz.heap.size zz z2) :
    Hid (TwoB w ((((((((((((((((((((z2).setCell ⟨w.heap.size, 1, none⟩ (.int .i64 g1)).setCell ⟨w.heap.size, 2, none⟩ (.int .i64 g2)).setCell ⟨w.heap.size, 3, none⟩ (.int .i64 g3)).setCell ⟨w.heap.size, 4, none⟩ (.int .i64 g4)).setCell ⟨w.heap.size, 5, none⟩ (.int .i64 g5)).setCell ⟨w.heap.size, 6, none⟩ (.bool g6)).setCell ⟨w.heap.size, 7, none⟩ (.slice a1' LA k1')).setCell ⟨w.heap.size, 8, none⟩ (.slice a2' LR k2')).setCell ⟨w.heap.size, 9, none⟩ (.slice a3' LQ k3')).setCell ⟨w.heap.size, 10, none⟩ (.slice a4' LJ k4')).setCell ⟨w.heap.size, 11, none⟩ (.int .i64 g11)).setCell ⟨w.heap.size, 12, none⟩ (.int .i64 g12)).setCell ⟨w.heap.size, 13, none⟩ (.slice a5' LN k5')).setCell ⟨w.heap.size, 14, none⟩ (.int .i64 g14)).setCell ⟨w.heap.size, 15, none⟩ (.int .i64 g15)).setCell ⟨w.heap.size, 21, none⟩ (.int .i64 g21)).setCell ⟨w.heap.size, 22, none⟩ (.int .i64 g22)).setCell ⟨w.heap.size, 23, none⟩ (.slice a6' LT k6')).setCell ⟨w.heap.size, 24, none⟩ (.int .i64 g24)) 50 #[.int .u8 g0, .int .i64 g1, .int .i64 g2, .int .i64 g3, .int .i64 g4, .int .i64 g5, .bool g6, .slice a1' LA k1', .slice a2' LR k2', .slice a3' LQ k3', .slice a4' LJ k4', .int .i64 g11, .int .i64 g12, .slice a5' LN k5', .int .i64 g14, .int .i64 g15, .int .i64 g16, .int .i64 g17, .int .i64 g18, .int .i64 g19, .int .i64 g20, .int .i64 g21, .int .i64 g22, .slice a6' LT k6', .int .i64 g24, .int .i64 g25, .int .i64 g26, .int .i64 g27, .int .i64 g28, .int .i64 g29] ml0 ∧ OM (w.heap.size + 2) ((((((((((((((((((((z2).setCell ⟨w.heap.size, 1, none⟩ (.int .i64 g1)).setCell ⟨w.heap.size, 2, none⟩ (.int .i64 g2)).setCell ⟨w.heap.size, 3, none⟩ (.int .i64 g3)).setCell ⟨w.heap.size, 4, none⟩ (.int .i64 g4)).setCell ⟨w.heap.size, 5, none⟩ (.int .i64 g5)).setCell ⟨w.heap.size, 6, none⟩ (.bool g6)).setCell ⟨w.heap.size, 7, none⟩ (.slice a1' LA k1')).setCell ⟨w.heap.size, 8, none⟩ (.slice a2' LR k2')).setCell ⟨w.heap.size, 9, none⟩ (.slice a3' LQ k3')).setCell ⟨w.heap.size, 10, none⟩ (.slice a4' LJ k4')).setCell ⟨w.heap.size, 11, none⟩ (.int .i64 g11)).setCell ⟨w.heap.size, 12, none⟩ (.int .i64 g12)).setCell ⟨w.heap.size, 13, none⟩ (.slice a5' LN k5')).setCell ⟨w.heap.size, 14, none⟩ (.int .i64 g14)).setCell ⟨w.heap.size, 15, none⟩ (.int .i64 g15)).setCell ⟨w.heap.size, 21, none⟩ (.int .i64 g21)).setCell ⟨w.heap.size, 22, none⟩ (.int .i64 g22)).setCell ⟨w.heap.size, 23, none⟩ (.slice a6' LT k6')).setCell ⟨w.heap.size, 24, none⟩ (.int .i64 g24)) ⟨g0, ⟨g1, g2, g3, g4, g5, g6, adds, rem, seals, joins, g11, g12, next, g14, g15⟩, g16, g17, g18, g19, g20, g21, g22, tr, g24, g25, g26, g27, g28, g29⟩ ⟨⟨.slice a1' LA k1', .slice a2' LR k2', .slice a3' LQ k3', .slice a4' LJ k4', .slice a5' LN k5'⟩, us, .slice a6' LT k6', ts⟩) := by
  have p1 := T2.pokes1 1 [.int .i64 g1, .int .i64 g2, .int .i64 g3, .int .i64 g4, .int .i64 g5, .bool g6, .slice a1' LA k1', .slice a2' LR k2', .slice a3' LQ k3', .slice a4' LJ k4', .int .i64 g11, .int .i64 g12, .slice a5' LN k5', .int .i64 g14, .int .i64 g15]
  have p2 := p1.1.pokes1 21 [.int .i64 g21, .int .i64 g22, .slice a6' LT k6', .int .i64 g24]
  have q2 := p2.1
  rw [pk30] at q2
  have hs1 : w.heap.size + 2 ≤ zz.heap.size := T1.two
  have e2 := p2.2
  have e1 := p1.2
  clear p1 p2
  obtain ⟨WP, hWP⟩ : ∃ W, W = pokes (pokes z2 w.heap.size 1 [.int .i64 g1, .int .i64 g2, .int .i64 g3, .int .i64 g4, .int .i64 g5, .bool g6, .slice a1' LA k1', .slice a2' LR k2', .slice a3' LQ k3', .slice a4' LJ k4', .int .i64 g11, .int .i64 g12, .slice a5' LN k5', .int .i64 g14, .int .i64 g15]) w.heap.size 21 [.int .i64 g21, .int .i64 g22, .slice a6' LT k6', .int .i64 g24] := ⟨_, rfl⟩
  have kp : ∀ k, w.heap.size + 2 ≤ k → WP.heap[k]? = z2.heap[k]? := fun k hk => by rw [hWP, e2 k hk, e1 k hk]
  rw [← hWP] at q2
  have hN : WP = (((((((((((((((((((z2).setCell ⟨w.heap.size, 1, none⟩ (.int .i64 g1)).setCell ⟨w.heap.size, 2, none⟩ (.int .i64 g2)).setCell ⟨w.heap.size, 3, none⟩ (.int .i64 g3)).setCell ⟨w.heap.size, 4, none⟩ (.int .i64 g4)).setCell ⟨w.heap.size, 5, none⟩ (.int .i64 g5)).setCell ⟨w.heap.size, 6, none⟩ (.bool g6)).setCell ⟨w.heap.size, 7, none⟩ (.slice a1' LA k1')).setCell ⟨w.heap.size, 8, none⟩ (.slice a2' LR k2')).setCell ⟨w.heap.size, 9, none⟩ (.slice a3' LQ k3')).setCell ⟨w.heap.size, 10, none⟩ (.slice a4' LJ k4')).setCell ⟨w.heap.size, 11, none⟩ (.int .i64 g11)).setCell ⟨w.heap.size, 12, none⟩ (.int .i64 g12)).setCell ⟨w.heap.size, 13, none⟩ (.slice a5' LN k5')).setCell ⟨w.heap.size, 14, none⟩ (.int .i64 g14)).setCell ⟨w.heap.size, 15, none⟩ (.int .i64 g15)).setCell ⟨w.heap.size, 21, none⟩ (.int .i64 g21)).setCell ⟨w.heap.size, 22, none⟩ (.int .i64 g22)).setCell ⟨w.heap.size, 23, none⟩ (.slice a6' LT k6')).setCell ⟨w.heap.size, 24, none⟩ (.int .i64 g24) := hWP
  rw [← hN]
  clear hN hWP e1 e2
  have kb : ∀ k, w.heap.size + 2 ≤ k → k < zz.heap.size → WP.heap[k]? = zz.heap[k]? := fun k hk hk2 => by rw [kp k hk]; exact b2.block k hk2
  have o1 := ho1.mono (show w.heap.size + 2 ≤ _ from h2)
  have o2 := ho2.owl.mono hs1
  refine ⟨q2, o1.keep (fun k hk => kb k (o1.lt k hk).1 (o1.lt k hk).2), (o2.keep (fun k hk => kp k (o2.lt k hk).1)).otr, fun k hk hq => ?_⟩
  have h8 := (o1.lt k hk).2
  have h9 := (ho2.owl.lt k hq).1
  omega
set_option maxRecDepth 100000 in
set_option maxHeartbeats 16000000 in
theorem frMail_any {w : World} {m : Ml} {x : Mx} (h : MlR w m x) (hs : SmM m) :
    Calls Tryz.prog 44 #[.agg (mlC m x).toArray] w fun e w' => ∃ x', e = .returned (.agg (mlC m x').toArray) ∧ OM w.heap.size w' m x' ∧ Below w.heap.size w w' := by
  obtain ⟨w0, hw0⟩ : ∃ w0, w0 = (w.alloc (.cells (mlC m x).toArray 50)).alloc (.cells ml0 50) := ⟨_, rfl⟩
  have s0 : TwoB w w0 50 (mlC m x).toArray ml0 := by rw [hw0]; exact TwoB.start _ _ _ _
  have KA : Hid (∀ W, Below w.heap.size w W → Calls Tryz.prog 67 #[cmV m.cm x.cx] W fun e w' => ∃ a1' k1' a2' k2' a3' k3' a4' k4' a5' k5' us, e = .returned (cmV m.cm ⟨.slice a1' m.cm.adds.length k1', .slice a2' m.cm.rem.length k2', .slice a3' m.cm.seals.length k3', .slice a4' m.cm.joins.length k4', .slice a5' m.cm.next.length k5'⟩) ∧ OC W.heap.size w' m.cm ⟨.slice a1' m.cm.adds.length k1', .slice a2' m.cm.rem.length k2', .slice a3' m.cm.seals.length k3', .slice a4' m.cm.joins.length k4', .slice a5' m.cm.next.length k5'⟩ us ∧ Below W.heap.size W w') := fun W hW => frCommitS_any (h.c.bw hW) hs.c
  have KB : Hid (∀ n0 n1 n3 W, Below w.heap.size w W → Calls Tryz.prog 68 #[.agg #[.int .i64 n0, .int .i64 n1, x.tv, .int .i64 n3]] W fun e w' => ∃ a6' k6' ts, e = .returned (.agg #[.int .i64 n0, .int .i64 n1, .slice a6' m.tr.length k6', .int .i64 n3]) ∧ OTr W.heap.size w' (.slice a6' m.tr.length k6') m.tr ts ∧ Below W.heap.size W w') := fun n0 n1 n3 W hW => frFaceS_any (h.t.bw hW) hs.n hs.u n0 n1 n3
  obtain ⟨a1, k1, e1⟩ := h.c.adds.slice
  obtain ⟨a2, k2, e2⟩ := nums_slice h.c.rem
  obtain ⟨a3, k3, e3⟩ := h.c.seals.slice
  obtain ⟨a4, k4, e4⟩ := h.c.joins.slice
  obtain ⟨a5, k5, e5⟩ := h.c.next.slice
  obtain ⟨a6, k6, e6⟩ := h.t.slice
  have HS0 := hide hs
  clear h hs
  obtain ⟨g0, ⟨g1, g2, g3, g4, g5, g6, adds, rem, seals, joins, g11, g12, next, g14, g15⟩, g16, g17, g18, g19, g20, g21, g22, tr, g24, g25, g26, g27, g28, g29⟩ := m
  obtain ⟨⟨av, rv, qv, jv, nv⟩, us0, tv, ts0⟩ := x
  unfold cmV cmC at KA
  unfold mlC at hw0 s0 ⊢
  simp only at KA KB e1 e2 e3 e4 e5 e6 hw0 s0 ⊢
  obtain ⟨LN, hLN⟩ : ∃ z, z = next.length := ⟨_, rfl⟩
  obtain ⟨LA, hLA⟩ : ∃ z, z = adds.length := ⟨_, rfl⟩
  obtain ⟨LR, hLR⟩ : ∃ z, z = rem.length := ⟨_, rfl⟩
  obtain ⟨LQ, hLQ⟩ : ∃ z, z = seals.length := ⟨_, rfl⟩
  obtain ⟨LJ, hLJ⟩ : ∃ z, z = joins.length := ⟨_, rfl⟩
  obtain ⟨LT, hLT⟩ : ∃ z, z = tr.length := ⟨_, rfl⟩
  rw [← hLA, ← hLR, ← hLQ, ← hLJ, ← hLN] at KA
  rw [← hLT] at KB
  rw [← hLA] at e1
  rw [← hLR] at e2
  rw [← hLQ] at e3
  rw [← hLJ] at e4
  rw [← hLN] at e5
  rw [← hLT] at e6
  subst e1 e2 e3 e4 e5 e6
  have HW : Hid (w0 = (w.alloc (.cells #[.int .u8 g0, .int .i64 g1, .int .i64 g2, .int .i64 g3, .int .i64 g4, .int .i64 g5, .bool g6, .slice a1 LA k1, .slice a2 LR k2, .slice a3 LQ k3, .slice a4 LJ k4, .int .i64 g11, .int .i64 g12, .slice a5 LN k5, .int .i64 g14, .int .i64 g15, .int .i64 g16, .int .i64 g17, .int .i64 g18, .int .i64 g19, .int .i64 g20, .int .i64 g21, .int .i64 g22, .slice a6 LT k6, .int .i64 g24, .int .i64 g25, .int .i64 g26, .int .i64 g27, .int .i64 g28, .int .i64 g29] 50)).alloc (.cells #[.int .u8 0, .int .i64 0, .int .i64 0, .int .i64 0, .int .i64 0, .int .i64 0, .bool false, .slice none 0 0, .slice none 0 0, .slice none 0 0, .slice none 0 0, .int .i64 0, .int .i64 0, .slice none 0 0, .int .i64 0, .int .i64 0, .int .i64 0, .int .i64 0, .int .i64 0, .int .i64 0, .int .i64 0, .int .i64 0, .int .i64 0, .slice none 0 0, .int .i64 0, .int .i64 0, .int .i64 0, .int .i64 0, .int .i64 0, .int .i64 0] 50)) := hw0
  have S0 : Hid (TwoB w w0 50 #[.int .u8 g0, .int .i64 g1, .int .i64 g2, .int .i64 g3, .int .i64 g4, .int .i64 g5, .bool g6, .slice a1 LA k1, .slice a2 LR k2, .slice a3 LQ k3, .slice a4 LJ k4, .int .i64 g11, .int .i64 g12, .slice a5 LN k5, .int .i64 g14, .int .i64 g15, .int .i64 g16, .int .i64 g17, .int .i64 g18, .int .i64 g19, .int .i64 g20, .int .i64 g21, .int .i64 g22, .slice a6 LT k6, .int .i64 g24, .int .i64 g25, .int .i64 g26, .int .i64 g27, .int .i64 g28, .int .i64 g29] ml0) := s0
  clear hw0 s0 hLN hLA hLR hLQ hLJ hLT
  go_enter Tryz.func44, Tryz.ntmps44
  go_upto_region 1 with fail
  rw [← unhide HW]
  clear HW
  go_cut [] from 3 to 10 (fun wx => ∃ a1' k1' a2' k2' a3' k3' a4' k4' a5' k5' us a6' k6' ts, Hid (TwoB w wx 50 #[.int .u8 g0, .int .i64 g1, .int .i64 g2, .int .i64 g3, .int .i64 g4, .int .i64 g5, .bool g6, .slice a1' LA k1', .slice a2' LR k2', .slice a3' LQ k3', .slice a4' LJ k4', .int .i64 g11, .int .i64 g12, .slice a5' LN k5', .int .i64 g14, .int .i64 g15, .int .i64 g16, .int .i64 g17, .int .i64 g18, .int .i64 g19, .int .i64 g20, .int .i64 g21, .int .i64 g22, .slice a6' LT k6', .int .i64 g24, .int .i64 g25, .int .i64 g26, .int .i64 g27, .int .i64 g28, .int .i64 g29] ml0 ∧ OM (w.heap.size + 2) wx ⟨g0, ⟨g1, g2, g3, g4, g5, g6, adds, rem, seals, joins, g11, g12, next, g14, g15⟩, g16, g17, g18, g19, g20, g21, g22, tr, g24, g25, g26, g27, g28, g29⟩ ⟨⟨.slice a1' LA k1', .slice a2' LR k2', .slice a3' LQ k3', .slice a4' LJ k4', .slice a5' LN k5'⟩, us, .slice a6' LT k6', ts⟩))
  case first =>

    have x1 : w0.drew.cell? ⟨w.heap.size, 1, none⟩ = some (.int .i64 g1) := blk_c (unhide S0).k1 rfl
    have x2 : w0.drew.cell? ⟨w.heap.size, 2, none⟩ = some (.int .i64 g2) := blk_c (unhide S0).k1 rfl
    have x3 : w0.drew.cell? ⟨w.heap.size, 3, none⟩ = some (.int .i64 g3) := blk_c (unhide S0).k1 rfl
    have x4 : w0.drew.cell? ⟨w.heap.size, 4, none⟩ = some (.int .i64 g4) := blk_c (unhide S0).k1 rfl
    have x5 : w0.drew.cell? ⟨w.heap.size, 5, none⟩ = some (.int .i64 g5) := blk_c (unhide S0).k1 rfl
    have x6 : w0.drew.cell? ⟨w.heap.size, 6, none⟩ = some (.bool g6) := blk_c (unhide S0).k1 rfl
    have x7 : w0.drew.cell? ⟨w.heap.size, 7, none⟩ = some (.slice a1 LA k1) := blk_c (unhide S0).k1 rfl
    have x8 : w0.drew.cell? ⟨w.heap.size, 8, none⟩ = some (.slice a2 LR k2) := blk_c (unhide S0).k1 rfl
    have x9 : w0.drew.cell? ⟨w.heap.size, 9, none⟩ = some (.slice a3 LQ k3) := blk_c (unhide S0).k1 rfl
    have x10 : w0.drew.cell? ⟨w.heap.size, 10, none⟩ = some (.slice a4 LJ k4) := blk_c (unhide S0).k1 rfl
    have x11 : w0.drew.cell? ⟨w.heap.size, 11, none⟩ = some (.int .i64 g11) := blk_c (unhide S0).k1 rfl
    have x12 : w0.drew.cell? ⟨w.heap.size, 12, none⟩ = some (.int .i64 g12) := blk_c (unhide S0).k1 rfl
    have x13 : w0.drew.cell? ⟨w.heap.size, 13, none⟩ = some (.slice a5 LN k5) := blk_c (unhide S0).k1 rfl
    have x14 : w0.drew.cell? ⟨w.heap.size, 14, none⟩ = some (.int .i64 g14) := blk_c (unhide S0).k1 rfl
    have x15 : w0.drew.cell? ⟨w.heap.size, 15, none⟩ = some (.int .i64 g15) := blk_c (unhide S0).k1 rfl
    have x21 : w0.drew.cell? ⟨w.heap.size, 21, none⟩ = some (.int .i64 g21) := blk_c (unhide S0).k1 rfl
    have x22 : w0.drew.cell? ⟨w.heap.size, 22, none⟩ = some (.int .i64 g22) := blk_c (unhide S0).k1 rfl
    have x23 : w0.drew.cell? ⟨w.heap.size, 23, none⟩ = some (.slice a6 LT k6) := blk_c (unhide S0).k1 rfl
    have x24 : w0.drew.cell? ⟨w.heap.size, 24, none⟩ = some (.int .i64 g24) := blk_c (unhide S0).k1 rfl
    have K1 := hide (unhide KA w0.drew (unhide S0).bel.drew)
    go_region_law (go_simp; go_wp2_with (first
      | (go_at_call 67; refine (unhide K1).mono ?_; rintro e_ zz ⟨a1', k1', a2', k2', a3', k3', a4', k4', a5', k5', us, rfl, ho1, b1⟩; have T1 := hide (((unhide S0).bw (Below.refl _ _).drew).bw b1); have y21 : zz.cell? ⟨w.heap.size, 21, none⟩ = some (.int .i64 g21) := blk_c (unhide T1).k1 rfl; have y22 : zz.cell? ⟨w.heap.size, 22, none⟩ = some (.int .i64 g22) := blk_c (unhide T1).k1 rfl; have y23 : zz.cell? ⟨w.heap.size, 23, none⟩ = some (.slice a6 LT k6) := blk_c (unhide T1).k1 rfl; have y24 : zz.cell? ⟨w.heap.size, 24, none⟩ = some (.int .i64 g24) := blk_c (unhide T1).k1 rfl; have K2 := hide (unhide KB g21 g22 g24 zz (unhide T1).bel); have HO1 := hide (And.intro ho1 b1); clear ho1 b1)
      | (go_at_call 68; refine (unhide K2).mono ?_; rintro e_ z2 ⟨a6', k6', ts, rfl, ho2, b2⟩; have T2 := hide ((unhide T1).bw b2); have u1 : z2.cell? ⟨w.heap.size, 1, none⟩ = some (.int .i64 g1) := blk_c (unhide T2).k1 rfl; have u2 : z2.cell? ⟨w.heap.size, 2, none⟩ = some (.int .i64 g2) := blk_c (unhide T2).k1 rfl; have u3 : z2.cell? ⟨w.heap.size, 3, none⟩ = some (.int .i64 g3) := blk_c (unhide T2).k1 rfl; have u4 : z2.cell? ⟨w.heap.size, 4, none⟩ = some (.int .i64 g4) := blk_c (unhide T2).k1 rfl; have u5 : z2.cell? ⟨w.heap.size, 5, none⟩ = some (.int .i64 g5) := blk_c (unhide T2).k1 rfl; have u6 : z2.cell? ⟨w.heap.size, 6, none⟩ = some (.bool g6) := blk_c (unhide T2).k1 rfl; have u7 : z2.cell? ⟨w.heap.size, 7, none⟩ = some (.slice a1 LA k1) := blk_c (unhide T2).k1 rfl; have u8 : z2.cell? ⟨w.heap.size, 8, none⟩ = some (.slice a2 LR k2) := blk_c (unhide T2).k1 rfl; have u9 : z2.cell? ⟨w.heap.size, 9, none⟩ = some (.slice a3 LQ k3) := blk_c (unhide T2).k1 rfl; have u10 : z2.cell? ⟨w.heap.size, 10, none⟩ = some (.slice a4 LJ k4) := blk_c (unhide T2).k1 rfl; have u11 : z2.cell? ⟨w.heap.size, 11, none⟩ = some (.int .i64 g11) := blk_c (unhide T2).k1 rfl; have u12 : z2.cell? ⟨w.heap.size, 12, none⟩ = some (.int .i64 g12) := blk_c (unhide T2).k1 rfl; have u13 : z2.cell? ⟨w.heap.size, 13, none⟩ = some (.slice a5 LN k5) := blk_c (unhide T2).k1 rfl; have u14 : z2.cell? ⟨w.heap.size, 14, none⟩ = some (.int .i64 g14) := blk_c (unhide T2).k1 rfl; have u15 : z2.cell? ⟨w.heap.size, 15, none⟩ = some (.int .i64 g15) := blk_c (unhide T2).k1 rfl; have u21 : z2.cell? ⟨w.heap.size, 21, none⟩ = some (.int .i64 g21) := blk_c (unhide T2).k1 rfl; have u22 : z2.cell? ⟨w.heap.size, 22, none⟩ = some (.int .i64 g22) := blk_c (unhide T2).k1 rfl; have u23 : z2.cell? ⟨w.heap.size, 23, none⟩ = some (.slice a6 LT k6) := blk_c (unhide T2).k1 rfl; have u24 : z2.cell? ⟨w.heap.size, 24, none⟩ = some (.int .i64 g24) := blk_c (unhide T2).k1 rfl; have fz := fun j => froz_b' (i := j) (unhide T2).k1; have HO2 := hide (And.intro ho2 b2); clear ho2 b2)))
    all_goals
      have HR := frMail_cut (unhide S0).two (unhide T1) (unhide T2) (unhide HO1).1 (unhide HO2).1 (unhide HO2).2
      go_wp2_with fail
      go_meet
      case rel => exact ⟨_, _, _, _, _, _, _, _, _, _, _, _, _, _, HR⟩
  case rest =>
  obtain ⟨a1', k1', a2', k2', a3', k3', a4', k4', a5', k5', us, a6', k6', ts, hcut⟩ := hcut
  clear KA KB S0
  have HS := HS0
  obtain ⟨V1, hV1⟩ : ∃ wd, wd = wc := ⟨_, rfl⟩
  rw [← hV1]
  have s2 : TwoB w V1 50 #[.int .u8 g0, .int .i64 g1, .int .i64 g2, .int .i64 g3, .int .i64 g4, .int .i64 g5, .bool g6, .slice a1' LA k1', .slice a2' LR k2', .slice a3' LQ k3', .slice a4' LJ k4', .int .i64 g11, .int .i64 g12, .slice a5' LN k5', .int .i64 g14, .int .i64 g15, .int .i64 g16, .int .i64 g17, .int .i64 g18, .int .i64 g19, .int .i64 g20, .int .i64 g21, .int .i64 g22, .slice a6' LT k6', .int .i64 g24, .int .i64 g25, .int .i64 g26, .int .i64 g27, .int .i64 g28, .int .i64 g29] ml0 := by rw [hV1]; exact (unhide hcut).1
  have om : OM (w.heap.size + 2) V1 ⟨g0, ⟨g1, g2, g3, g4, g5, g6, adds, rem, seals, joins, g11, g12, next, g14, g15⟩, g16, g17, g18, g19, g20, g21, g22, tr, g24, g25, g26, g27, g28, g29⟩ ⟨⟨.slice a1' LA k1', .slice a2' LR k2', .slice a3' LQ k3', .slice a4' LJ k4', .slice a5' LN k5'⟩, us, .slice a6' LT k6', ts⟩ := by rw [hV1]; exact (unhide hcut).2
  clear hcut hV1
  have h1 := all_oneCell_toArray (ml_one (om.rd (unhide HS)))
  obtain ⟨C1, hC1⟩ : ∃ C : Array Value, C = #[.int .u8 g0, .int .i64 g1, .int .i64 g2, .int .i64 g3, .int .i64 g4, .int .i64 g5, .bool g6, .slice a1' LA k1', .slice a2' LR k2', .slice a3' LQ k3', .slice a4' LJ k4', .int .i64 g11, .int .i64 g12, .slice a5' LN k5', .int .i64 g14, .int .i64 g15, .int .i64 g16, .int .i64 g17, .int .i64 g18, .int .i64 g19, .int .i64 g20, .int .i64 g21, .int .i64 g22, .slice a6' LT k6', .int .i64 g24, .int .i64 g25, .int .i64 g26, .int .i64 g27, .int .i64 g28, .int .i64 g29] := ⟨_, rfl⟩
  have z1 : C1.all (·.oneCell') = true := by rw [hC1]; exact h1
  have z0 : C1.size = 30 := by rw [hC1]; rfl
  have z2 : (Tryz.prog.info? 50).map (·.size) = some C1.size := by
    obtain ⟨j0, hj, _, hy1, _⟩ := info_parts infoKMail
    rw [z0, hj]; simp [hy1]
  rw [← hC1] at s2
  have HO : Hid (OM w.heap.size (V1.setRow (w.heap.size + 1) C1) ⟨g0, ⟨g1, g2, g3, g4, g5, g6, adds, rem, seals, joins, g11, g12, next, g14, g15⟩, g16, g17, g18, g19, g20, g21, g22, tr, g24, g25, g26, g27, g28, g29⟩ ⟨⟨.slice a1' LA k1', .slice a2' LR k2', .slice a3' LQ k3', .slice a4' LJ k4', .slice a5' LN k5'⟩, us, .slice a6' LT k6', ts⟩ ∧ Below w.heap.size w (V1.setRow (w.heap.size + 1) C1)) :=
    ⟨(om.keep (fun k hk => setRow_other _ _ _ _ (by have := (om.lt k hk).1; omega))).mono (by omega), below_setRow' s2.bel (by omega) _⟩
  have HC := hide hC1
  have HZ := hide (And.intro s2.k1 (And.intro s2.k2 (And.intro z0 (And.intro z1 z2))))
  clear om s2 hC1 z0 z1 z2 h1 HS
  go_wp2_with (first | refine wpList_load_row rfl 50 (.tmp 1) rfl w.heap.size rfl 50 C1 (0, 0) _ (unhide HZ).1 Tryz.underlying50 rfl (unhide HZ).2.2.2.2 ?_ | refine wpList_store_row rfl 50 (.tmp 2) (.tmp 11) rfl (w.heap.size + 1) C1 rfl rfl 50 ml0 (unhide HZ).2.1 (unhide HZ).2.2.2.2 (by rw [(unhide HZ).2.2.1]; rfl) (unhide HZ).2.2.2.1 ?_)
  refine bodyPost_ret (v := .agg C1) (results_cell_row Tryz.results44 _ _ (w.heap.size + 1) 50 C1 (0, 0) _ rfl (setRow_heap _ _ _ _ _ _ (unhide HZ).2.1) Tryz.underlying50 rfl (unhide HZ).2.2.2.2) rfl ⟨⟨⟨.slice a1' LA k1', .slice a2' LR k2', .slice a3' LQ k3', .slice a4' LJ k4', .slice a5' LN k5'⟩, us, .slice a6' LT k6', ts⟩, by rw [unhide HC], (unhide HO).1, (unhide HO).2⟩
end Go.Proofs.YtgmlkofogeoocaaGreatDoor
