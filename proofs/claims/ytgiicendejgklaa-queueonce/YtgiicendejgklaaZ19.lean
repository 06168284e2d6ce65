/- Texts joined: PoC QuA QuB QuH. -/
import Derived.Test.YtgiicendejgklaaZ15
/- A mail's copy (fresh.Mail). -/
namespace Go.Proofs.Ytgiicendejgklaa
open Go.RowKit Go.Maps
theorem frCommitS_any {w : World} {c : Cm} {x : Cv} (h : CmR w c x) (hs : SmC c) :
    Calls Try.prog 39 #[cmV c x] w fun e w' => ∃ a1' k1' a2' k2' a3' k3' a4' k4' a5' k5' us, e = .returned (cmV c ⟨.slice a1' c.adds.length k1', .slice a2' c.rem.length k2', .slice a3' c.seals.length k3', .slice a4' c.joins.length k4', .slice a5' c.next.length k5'⟩) ∧ OC w.heap.size w' c ⟨.slice a1' c.adds.length k1', .slice a2' c.rem.length k2', .slice a3' c.seals.length k3', .slice a4' c.joins.length k4', .slice a5' c.next.length k5'⟩ us ∧ Below w.heap.size w w' := by
  refine (frCommit_any h hs).mono ?_
  rintro e w' ⟨x', us, rfl, ho, hb⟩
  obtain ⟨a1', k1', e1⟩ := own_slice ho.adds
  obtain ⟨a2', k2', e2⟩ := own_slice ho.rem
  obtain ⟨a3', k3', e3⟩ := own_slice ho.seals
  obtain ⟨a4', k4', e4⟩ := own_slice ho.joins
  obtain ⟨a5', k5', e5⟩ := own_slice ho.next.row
  obtain ⟨av, rv, qv, jv, nv⟩ := x'
  simp only at e1 e2 e3 e4 e5
  subst e1 e2 e3 e4 e5
  exact ⟨a1', k1', a2', k2', a3', k3', a4', k4', a5', k5', us, rfl, ho, hb⟩
theorem frTreeS_any {w : World} {v : Value} {T : List Nd} (h : Trd w v T) (hl : T.length ≤ 1073741824) (hu : ∀ n ∈ T, n.un.length ≤ 1073741824) :
    Calls Try.prog 60 #[.agg #[v]] w fun e w' => ∃ a6' k6' ts, e = .returned (.agg #[.slice a6' T.length k6']) ∧ OTr w.heap.size w' (.slice a6' T.length k6') T ts ∧ Below w.heap.size w w' := by
  refine (frTree_any h hl hu).mono ?_
  rintro e w' ⟨v', ts, rfl, ho, hb⟩
  obtain ⟨a6', k6', e6⟩ := own_slice ho.row
  subst e6
  exact ⟨a6', k6', ts, rfl, ho, hb⟩
set_option maxRecDepth 100000 in
set_option maxHeartbeats 4000000 in
theorem frFaceS_any {w : World} {v : Value} {T : List Nd} (h : Trd w v T) (hl : T.length ≤ 1073741824) (hu : ∀ n ∈ T, n.un.length ≤ 1073741824) (n0 n1 n3 : Int) :
    Calls Try.prog 61 #[.agg #[.int .i64 n0, .int .i64 n1, v, .int .i64 n3]] w fun e w' => ∃ a6' k6' ts, e = .returned (.agg #[.int .i64 n0, .int .i64 n1, .slice a6' T.length k6', .int .i64 n3]) ∧ OTr w.heap.size w' (.slice a6' T.length k6') T ts ∧ Below w.heap.size w w' := by
  obtain ⟨w0, hw0⟩ : ∃ w0, w0 = (w.alloc (.cells #[.int .i64 n0, .int .i64 n1, v, .int .i64 n3] 37)).alloc (.cells #[.int .i64 0, .int .i64 0, .slice none 0 0, .int .i64 0] 37) := ⟨_, rfl⟩
  have s0 : TwoB w w0 37 #[.int .i64 n0, .int .i64 n1, v, .int .i64 n3] #[.int .i64 0, .int .i64 0, .slice none 0 0, .int .i64 0] := by rw [hw0]; exact TwoB.start _ _ _ _
  have KL := hide (frTreeS_any (h.bw s0.bel) hl hu)
  obtain ⟨a, c, rfl⟩ := h.slice
  have S0 := hide s0
  have HW := hide hw0
  clear h hl hu s0 hw0
  generalize T.length = N at *
  go_enter Try.func61, Try.ntmps61
  go_upto_region 1 with fail
  rw [← unhide HW]
  clear HW
  have c0 : w0.cell? ⟨w.heap.size, 2, none⟩ = some (.slice a N c) := blk_c (unhide S0).k1 rfl
  go_wp2_with fail
  refine (unhide KL).mono ?_
  rintro e w1 ⟨a6', k6', ts, rfl, ho, b1⟩
  have s1 := (unhide S0).bw b1
  have p2 := s1.poke 2 (.slice a6' N k6')
  have an := p2.1.answer [.int .i64 n0, .int .i64 n1, .slice a6' N k6', .int .i64 n3] rfl
  obtain ⟨WZ, hWZ⟩ : ∃ W, W = pokes (w1.setCell ⟨w.heap.size, 2, none⟩ (.slice a6' N k6')) (w.heap.size + 1) 0 [.int .i64 n0, .int .i64 n1, .slice a6' N k6', .int .i64 n3] := ⟨_, rfl⟩
  rw [← hWZ] at an
  have HO : Hid (OTr w.heap.size WZ (.slice a6' N k6') T ts ∧ Below w.heap.size w WZ) := by
    refine ⟨((ho.owl.keep (fun k hk => ?_)).mono ?_).otr, an.2.1⟩
    · have h1 := (ho.owl.lt k hk).1
      have h2 := (unhide S0).two
      rw [an.2.2 k (by omega)]
      exact p2.2 k (by omega)
    · have h2 := (unhide S0).two; omega
  have q0 : w1.cell? ⟨w.heap.size, 0, none⟩ = some (.int .i64 n0) := blk_c s1.k1 rfl
  have q1 : w1.cell? ⟨w.heap.size, 1, none⟩ = some (.int .i64 n1) := blk_c s1.k1 rfl
  have q2 : w1.cell? ⟨w.heap.size, 2, none⟩ = some (.slice a N c) := blk_c s1.k1 rfl
  have q3 : w1.cell? ⟨w.heap.size, 3, none⟩ = some (.int .i64 n3) := blk_c s1.k1 rfl
  have f1 := fun j => froz_b' (i := j) s1.k1
  have e0 : w1.cell? ⟨w.heap.size + 1, 0, none⟩ = some (.int .i64 0) := blk_c s1.k2 rfl
  have e1 : w1.cell? ⟨w.heap.size + 1, 1, none⟩ = some (.int .i64 0) := blk_c s1.k2 rfl
  have e2 : w1.cell? ⟨w.heap.size + 1, 2, none⟩ = some (.slice none 0 0) := blk_c s1.k2 rfl
  have e3 : w1.cell? ⟨w.heap.size + 1, 3, none⟩ = some (.int .i64 0) := blk_c s1.k2 rfl
  have fe := fun j => froz_b' (i := j) s1.k2
  have z0 : WZ.cell? ⟨w.heap.size + 1, 0, none⟩ = some (.int .i64 n0) := blk_c an.1 rfl
  have z1 : WZ.cell? ⟨w.heap.size + 1, 1, none⟩ = some (.int .i64 n1) := blk_c an.1 rfl
  have z2 : WZ.cell? ⟨w.heap.size + 1, 2, none⟩ = some (.slice a6' N k6') := blk_c an.1 rfl
  have z3 : WZ.cell? ⟨w.heap.size + 1, 3, none⟩ = some (.int .i64 n3) := blk_c an.1 rfl
  have HZ : Hid (WZ = ((((w1.setCell ⟨w.heap.size, 2, none⟩ (.slice a6' N k6')).setCell ⟨w.heap.size + 1, 0, none⟩ (.int .i64 n0)).setCell ⟨w.heap.size + 1, 1, none⟩ (.int .i64 n1)).setCell ⟨w.heap.size + 1, 2, none⟩ (.slice a6' N k6')).setCell ⟨w.heap.size + 1, 3, none⟩ (.int .i64 n3)) := hWZ
  clear S0 KL ho b1 s1 p2 an hWZ
  go_wp2_with fail
  rw [← unhide HZ]
  exact bodyPost_ret (v := .agg #[.int .i64 n0, .int .i64 n1, .slice a6' N k6', .int .i64 n3]) (by simp [results, Try.results61, go_sem, z0, z1, z2, z3]) rfl ⟨a6', k6', ts, rfl, (unhide HO).1, (unhide HO).2⟩
theorem TwoB.pokes1 {w W : World} {t : TypeId} {cs zs : Array Value} (h : TwoB w W t cs zs) (i : Nat) (vs : List Value) : TwoB w (pokes W w.heap.size i vs) t (pk cs i vs) zs ∧ ∀ k, w.heap.size + 2 ≤ k → (pokes W w.heap.size i vs).heap[k]? = W.heap[k]? :=
  ⟨⟨pokes_at _ _ _ _ h.k1, by rw [pokes_other (by omega)]; exact h.k2, pokes_below (Nat.le_refl _) _ _ _ h.bel⟩, fun k hk => pokes_other (by omega) _ _ _⟩
set_option maxRecDepth 100000 in
set_option maxHeartbeats 4000000 in
theorem pk30 (c0 c1 c2 c3 c4 c5 c6 c7 c8 c9 c10 c11 c12 c13 c14 c15 c16 c17 c18 c19 c20 c21 c22 c23 c24 c25 c26 c27 c28 c29 n1 n2 n3 n4 n5 n6 n7 n8 n9 n10 n11 n12 n13 n14 n15 n21 n22 n23 n24 : Value) : pk (pk #[c0, c1, c2, c3, c4, c5, c6, c7, c8, c9, c10, c11, c12, c13, c14, c15, c16, c17, c18, c19, c20, c21, c22, c23, c24, c25, c26, c27, c28, c29] 1 [n1, n2, n3, n4, n5, n6, n7, n8, n9, n10, n11, n12, n13, n14, n15]) 21 [n21, n22, n23, n24] = #[c0, n1, n2, n3, n4, n5, n6, n7, n8, n9, n10, n11, n12, n13, n14, n15, c16, c17, c18, c19, c20, n21, n22, n23, n24, c25, c26, c27, c28, c29] := by
  simp only [pk, List.setIfInBounds_toArray, Nat.reduceAdd, List.set_cons_zero, List.set_cons_succ]
set_option maxRecDepth 100000 in
set_option maxHeartbeats 8000000 in
theorem frMail_cut {w w0 zz z2 : World} {g0 g1 g2 g3 g4 g5 g11 g12 g14 g15 g16 g17 g18 g19 g20 g21 g22 g24 g25 g26 g27 g28 g29 : Int} {g6 : Bool} {a1 a2 a3 a4 a5 a6 a1' a2' a3' a4' a5' a6' : Option Addr} {k1 k2 k3 k4 k5 k6 k1' k2' k3' k4' k5' k6' LA LR LQ LJ LN LT : Nat} {adds seals joins : List (List Int)} {rem : List Int} {next tr : List Nd} {us ts : List Value}
    (h2 : w.heap.size + 2 ≤ w0.heap.size) (T1 : TwoB w zz 41 #[.int .u8 g0, .int .i64 g1, .int .i64 g2, .int .i64 g3, .int .i64 g4, .int .i64 g5, .bool g6, .slice a1 LA k1, .slice a2 LR k2, .slice a3 LQ k3, .slice a4 LJ k4, .int .i64 g11, .int .i64 g12, .slice a5 LN k5, .int .i64 g14, .int .i64 g15, .int .i64 g16, .int .i64 g17, .int .i64 g18, .int .i64 g19, .int .i64 g20, .int .i64 g21, .int .i64 g22, .slice a6 LT k6, .int .i64 g24, .int .i64 g25, .int .i64 g26, .int .i64 g27, .int .i64 g28, .int .i64 g29] ml0) (T2 : TwoB w z2 41 #[.int .u8 g0, .int .i64 g1, .int .i64 g2, .int .i64 g3, .int .i64 g4, .int .i64 g5, .bool g6, .slice a1 LA k1, .slice a2 LR k2, .slice a3 LQ k3, .slice a4 LJ k4, .int .i64 g11, .int .i64 g12, .slice a5 LN k5, .int .i64 g14, .int .i64 g15, .int .i64 g16, .int .i64 g17, .int .i64 g18, .int .i64 g19, .int .i64 g20, .int .i64 g21, .int .i64 g22, .slice a6 LT k6, .int .i64 g24, .int .i64 g25, .int .i64 g26, .int .i64 g27, .int .i64 g28, .int .i64 g29] ml0) (ho1 : OC w0.drew.heap.size zz ⟨g1, g2, g3, g4, g5, g6, adds, rem, seals, joins, g11, g12, next, g14, g15⟩ ⟨.slice a1' LA k1', .slice a2' LR k2', .slice a3' LQ k3', .slice a4' LJ k4', .slice a5' LN k5'⟩ us) (ho2 : OTr zz.heap.size z2 (.slice a6' LT k6') tr ts) (b2 : Below zz.heap.size zz z2) :
    Hid (TwoB w ((((((((((((((((((((z2).setCell ⟨w.heap.size, 1, none⟩ (.int .i64 g1)).setCell ⟨w.heap.size, 2, none⟩ (.int .i64 g2)).setCell ⟨w.heap.size, 3, none⟩ (.int .i64 g3)).setCell ⟨w.heap.size, 4, none⟩ (.int .i64 g4)).setCell ⟨w.heap.size, 5, none⟩ (.int .i64 g5)).setCell ⟨w.heap.size, 6, none⟩ (.bool g6)).setCell ⟨w.heap.size, 7, none⟩ (.slice a1' LA k1')).setCell ⟨w.heap.size, 8, none⟩ (.slice a2' LR k2')).setCell ⟨w.heap.size, 9, none⟩ (.slice a3' LQ k3')).setCell ⟨w.heap.size, 10, none⟩ (.slice a4' LJ k4')).setCell ⟨w.heap.size, 11, none⟩ (.int .i64 g11)).setCell ⟨w.heap.size, 12, none⟩ (.int .i64 g12)).setCell ⟨w.heap.size, 13, none⟩ (.slice a5' LN k5')).setCell ⟨w.heap.size, 14, none⟩ (.int .i64 g14)).setCell ⟨w.heap.size, 15, none⟩ (.int .i64 g15)).setCell ⟨w.heap.size, 21, none⟩ (.int .i64 g21)).setCell ⟨w.heap.size, 22, none⟩ (.int .i64 g22)).setCell ⟨w.heap.size, 23, none⟩ (.slice a6' LT k6')).setCell ⟨w.heap.size, 24, none⟩ (.int .i64 g24)) 41 #[.int .u8 g0, .int .i64 g1, .int .i64 g2, .int .i64 g3, .int .i64 g4, .int .i64 g5, .bool g6, .slice a1' LA k1', .slice a2' LR k2', .slice a3' LQ k3', .slice a4' LJ k4', .int .i64 g11, .int .i64 g12, .slice a5' LN k5', .int .i64 g14, .int .i64 g15, .int .i64 g16, .int .i64 g17, .int .i64 g18, .int .i64 g19, .int .i64 g20, .int .i64 g21, .int .i64 g22, .slice a6' LT k6', .int .i64 g24, .int .i64 g25, .int .i64 g26, .int .i64 g27, .int .i64 g28, .int .i64 g29] ml0 ∧ OM (w.heap.size + 2) ((((((((((((((((((((z2).setCell ⟨w.heap.size, 1, none⟩ (.int .i64 g1)).setCell ⟨w.heap.size, 2, none⟩ (.int .i64 g2)).setCell ⟨w.heap.size, 3, none⟩ (.int .i64 g3)).setCell ⟨w.heap.size, 4, none⟩ (.int .i64 g4)).setCell ⟨w.heap.size, 5, none⟩ (.int .i64 g5)).setCell ⟨w.heap.size, 6, none⟩ (.bool g6)).setCell ⟨w.heap.size, 7, none⟩ (.slice a1' LA k1')).setCell ⟨w.heap.size, 8, none⟩ (.slice a2' LR k2')).setCell ⟨w.heap.size, 9, none⟩ (.slice a3' LQ k3')).setCell ⟨w.heap.size, 10, none⟩ (.slice a4' LJ k4')).setCell ⟨w.heap.size, 11, none⟩ (.int .i64 g11)).setCell ⟨w.heap.size, 12, none⟩ (.int .i64 g12)).setCell ⟨w.heap.size, 13, none⟩ (.slice a5' LN k5')).setCell ⟨w.heap.size, 14, none⟩ (.int .i64 g14)).setCell ⟨w.heap.size, 15, none⟩ (.int .i64 g15)).setCell ⟨w.heap.size, 21, none⟩ (.int .i64 g21)).setCell ⟨w.heap.size, 22, none⟩ (.int .i64 g22)).setCell ⟨w.heap.size, 23, none⟩ (.slice a6' LT k6')).setCell ⟨w.heap.size, 24, none⟩ (.int .i64 g24)) ⟨g0, ⟨g1, g2, g3, g4, g5, g6, adds, rem, seals, joins, g11, g12, next, g14, g15⟩, g16, g17, g18, g19, g20, g21, g22, tr, g24, g25, g26, g27, g28, g29⟩ ⟨⟨.slice a1' LA k1', .slice a2' LR k2', .slice a3' LQ k3', .slice a4' LJ k4', .slice a5' LN k5'⟩, us, .slice a6' LT k6', ts⟩) := by
  have p1 := T2.pokes1 1 [.int .i64 g1, .int .i64 g2, .int .i64 g3, .int .i64 g4, .int .i64 g5, .bool g6, .slice a1' LA k1', .slice a2' LR k2', .slice a3' LQ k3', .slice a4' LJ k4', .int .i64 g11, .int .i64 g12, .slice a5' LN k5', .int .i64 g14, .int .i64 g15]
  have p2 := p1.1.pokes1 21 [.int .i64 g21, .int .i64 g22, .slice a6' LT k6', .int .i64 g24]
  have q2 := p2.1
  rw [pk30] at q2
  have hs1 : w.heap.size + 2 ≤ zz.heap.size := T1.two
  have e2 := p2.2
  have e1 := p1.2
  clear p1 p2
  obtain ⟨WP, hWP⟩ : ∃ W, W = pokes (pokes z2 w.heap.size 1 [.int .i64 g1, .int .i64 g2, .int .i64 g3, .int .i64 g4, .int .i64 g5, .bool g6, .slice a1' LA k1', .slice a2' LR k2', .slice a3' LQ k3', .slice a4' LJ k4', .int .i64 g11, .int .i64 g12, .slice a5' LN k5', .int .i64 g14, .int .i64 g15]) w.heap.size 21 [.int .i64 g21, .int .i64 g22, .slice a6' LT k6', .int .i64 g24] := ⟨_, rfl⟩
  have kp : ∀ k, w.heap.size + 2 ≤ k → WP.heap[k]? = z2.heap[k]? := fun k hk => by rw [hWP, e2 k hk, e1 k hk]
  rw [← hWP] at q2
  have hN : WP = (((((((((((((((((((z2).setCell ⟨w.heap.size, 1, none⟩ (.int .i64 g1)).setCell ⟨w.heap.size, 2, none⟩ (.int .i64 g2)).setCell ⟨w.heap.size, 3, none⟩ (.int .i64 g3)).setCell ⟨w.heap.size, 4, none⟩ (.int .i64 g4)).setCell ⟨w.heap.size, 5, none⟩ (.int .i64 g5)).setCell ⟨w.heap.size, 6, none⟩ (.bool g6)).setCell ⟨w.heap.size, 7, none⟩ (.slice a1' LA k1')).setCell ⟨w.heap.size, 8, none⟩ (.slice a2' LR k2')).setCell ⟨w.heap.size, 9, none⟩ (.slice a3' LQ k3')).setCell ⟨w.heap.size, 10, none⟩ (.slice a4' LJ k4')).setCell ⟨w.heap.size, 11, none⟩ (.int .i64 g11)).setCell ⟨w.heap.size, 12, none⟩ (.int .i64 g12)).setCell ⟨w.heap.size, 13, none⟩ (.slice a5' LN k5')).setCell ⟨w.heap.size, 14, none⟩ (.int .i64 g14)).setCell ⟨w.heap.size, 15, none⟩ (.int .i64 g15)).setCell ⟨w.heap.size, 21, none⟩ (.int .i64 g21)).setCell ⟨w.heap.size, 22, none⟩ (.int .i64 g22)).setCell ⟨w.heap.size, 23, none⟩ (.slice a6' LT k6')).setCell ⟨w.heap.size, 24, none⟩ (.int .i64 g24) := hWP
  rw [← hN]
  clear hN hWP e1 e2
  have kb : ∀ k, w.heap.size + 2 ≤ k → k < zz.heap.size → WP.heap[k]? = zz.heap[k]? := fun k hk hk2 => by rw [kp k hk]; exact b2.block k hk2
  have o1 := ho1.mono (show w.heap.size + 2 ≤ _ from h2)
  have o2 := ho2.owl.mono hs1
  refine ⟨q2, o1.keep (fun k hk => kb k (o1.lt k hk).1 (o1.lt k hk).2), (o2.keep (fun k hk => kp k (o2.lt k hk).1)).otr, fun k hk hq => ?_⟩
  have h8 := (o1.lt k hk).2
  have h9 := (ho2.owl.lt k hq).1
  omega
set_option maxRecDepth 100000 in
set_option maxHeartbeats 16000000 in
theorem frMail_any {w : World} {m : Ml} {x : Mx} (h : MlR w m x) (hs : SmM m) :
    Calls Try.prog 40 #[.agg (mlC m x).toArray] w fun e w' => ∃ x', e = .returned (.agg (mlC m x').toArray) ∧ OM w.heap.size w' m x' ∧ Below w.heap.size w w' := by
  obtain ⟨w0, hw0⟩ : ∃ w0, w0 = (w.alloc (.cells (mlC m x).toArray 41)).alloc (.cells ml0 41) := ⟨_, rfl⟩
  have s0 : TwoB w w0 41 (mlC m x).toArray ml0 := by rw [hw0]; exact TwoB.start _ _ _ _
  have KA : Hid (∀ W, Below w.heap.size w W → Calls Try.prog 39 #[cmV m.cm x.cx] W fun e w' => ∃ a1' k1' a2' k2' a3' k3' a4' k4' a5' k5' us, e = .returned (cmV m.cm ⟨.slice a1' m.cm.adds.length k1', .slice a2' m.cm.rem.length k2', .slice a3' m.cm.seals.length k3', .slice a4' m.cm.joins.length k4', .slice a5' m.cm.next.length k5'⟩) ∧ OC W.heap.size w' m.cm ⟨.slice a1' m.cm.adds.length k1', .slice a2' m.cm.rem.length k2', .slice a3' m.cm.seals.length k3', .slice a4' m.cm.joins.length k4', .slice a5' m.cm.next.length k5'⟩ us ∧ Below W.heap.size W w') := fun W hW => frCommitS_any (h.c.bw hW) hs.c
  have KB : Hid (∀ n0 n1 n3 W, Below w.heap.size w W → Calls Try.prog 61 #[.agg #[.int .i64 n0, .int .i64 n1, x.tv, .int .i64 n3]] W fun e w' => ∃ a6' k6' ts, e = .returned (.agg #[.int .i64 n0, .int .i64 n1, .slice a6' m.tr.length k6', .int .i64 n3]) ∧ OTr W.heap.size w' (.slice a6' m.tr.length k6') m.tr ts ∧ Below W.heap.size W w') := fun n0 n1 n3 W hW => frFaceS_any (h.t.bw hW) hs.n hs.u n0 n1 n3
  obtain ⟨a1, k1, e1⟩ := h.c.adds.slice
  obtain ⟨a2, k2, e2⟩ := nums_slice h.c.rem
  obtain ⟨a3, k3, e3⟩ := h.c.seals.slice
  obtain ⟨a4, k4, e4⟩ := h.c.joins.slice
  obtain ⟨a5, k5, e5⟩ := h.c.next.slice
  obtain ⟨a6, k6, e6⟩ := h.t.slice
  have HS0 := hide hs
  clear h hs
  obtain ⟨g0, ⟨g1, g2, g3, g4, g5, g6, adds, rem, seals, joins, g11, g12, next, g14, g15⟩, g16, g17, g18, g19, g20, g21, g22, tr, g24, g25, g26, g27, g28, g29⟩ := m
  obtain ⟨⟨av, rv, qv, jv, nv⟩, us0, tv, ts0⟩ := x
  unfold cmV cmC at KA
  unfold mlC at hw0 s0 ⊢
  simp only at KA KB e1 e2 e3 e4 e5 e6 hw0 s0 ⊢
  obtain ⟨LN, hLN⟩ : ∃ z, z = next.length := ⟨_, rfl⟩
  obtain ⟨LA, hLA⟩ : ∃ z, z = adds.length := ⟨_, rfl⟩
  obtain ⟨LR, hLR⟩ : ∃ z, z = rem.length := ⟨_, rfl⟩
  obtain ⟨LQ, hLQ⟩ : ∃ z, z = seals.length := ⟨_, rfl⟩
  obtain ⟨LJ, hLJ⟩ : ∃ z, z = joins.length := ⟨_, rfl⟩
  obtain ⟨LT, hLT⟩ : ∃ z, z = tr.length := ⟨_, rfl⟩
  rw [← hLA, ← hLR, ← hLQ, ← hLJ, ← hLN] at KA
  rw [← hLT] at KB
  rw [← hLA] at e1
  rw [← hLR] at e2
  rw [← hLQ] at e3
  rw [← hLJ] at e4
  rw [← hLN] at e5
  rw [← hLT] at e6
  subst e1 e2 e3 e4 e5 e6
  have HW : Hid (w0 = (w.alloc (.cells #[.int .u8 g0, .int .i64 g1, .int .i64 g2, .int .i64 g3, .int .i64 g4, .int .i64 g5, .bool g6, .slice a1 LA k1, .slice a2 LR k2, .slice a3 LQ k3, .slice a4 LJ k4, .int .i64 g11, .int .i64 g12, .slice a5 LN k5, .int .i64 g14, .int .i64 g15, .int .i64 g16, .int .i64 g17, .int .i64 g18, .int .i64 g19, .int .i64 g20, .int .i64 g21, .int .i64 g22, .slice a6 LT k6, .int .i64 g24, .int .i64 g25, .int .i64 g26, .int .i64 g27, .int .i64 g28, .int .i64 g29] 41)).alloc (.cells #[.int .u8 0, .int .i64 0, .int .i64 0, .int .i64 0, .int .i64 0, .int .i64 0, .bool false, .slice none 0 0, .slice none 0 0, .slice none 0 0, .slice none 0 0, .int .i64 0, .int .i64 0, .slice none 0 0, .int .i64 0, .int .i64 0, .int .i64 0, .int .i64 0, .int .i64 0, .int .i64 0, .int .i64 0, .int .i64 0, .int .i64 0, .slice none 0 0, .int .i64 0, .int .i64 0, .int .i64 0, .int .i64 0, .int .i64 0, .int .i64 0] 41)) := hw0
  have S0 : Hid (TwoB w w0 41 #[.int .u8 g0, .int .i64 g1, .int .i64 g2, .int .i64 g3, .int .i64 g4, .int .i64 g5, .bool g6, .slice a1 LA k1, .slice a2 LR k2, .slice a3 LQ k3, .slice a4 LJ k4, .int .i64 g11, .int .i64 g12, .slice a5 LN k5, .int .i64 g14, .int .i64 g15, .int .i64 g16, .int .i64 g17, .int .i64 g18, .int .i64 g19, .int .i64 g20, .int .i64 g21, .int .i64 g22, .slice a6 LT k6, .int .i64 g24, .int .i64 g25, .int .i64 g26, .int .i64 g27, .int .i64 g28, .int .i64 g29] ml0) := s0
  clear hw0 s0 hLN hLA hLR hLQ hLJ hLT
  go_enter Try.func40, Try.ntmps40
  go_upto_region 1 with fail
  rw [← unhide HW]
  clear HW
  go_cut [] from 3 to 10 (fun wx => ∃ a1' k1' a2' k2' a3' k3' a4' k4' a5' k5' us a6' k6' ts, Hid (TwoB w wx 41 #[.int .u8 g0, .int .i64 g1, .int .i64 g2, .int .i64 g3, .int .i64 g4, .int .i64 g5, .bool g6, .slice a1' LA k1', .slice a2' LR k2', .slice a3' LQ k3', .slice a4' LJ k4', .int .i64 g11, .int .i64 g12, .slice a5' LN k5', .int .i64 g14, .int .i64 g15, .int .i64 g16, .int .i64 g17, .int .i64 g18, .int .i64 g19, .int .i64 g20, .int .i64 g21, .int .i64 g22, .slice a6' LT k6', .int .i64 g24, .int .i64 g25, .int .i64 g26, .int .i64 g27, .int .i64 g28, .int .i64 g29] ml0 ∧ OM (w.heap.size + 2) wx ⟨g0, ⟨g1, g2, g3, g4, g5, g6, adds, rem, seals, joins, g11, g12, next, g14, g15⟩, g16, g17, g18, g19, g20, g21, g22, tr, g24, g25, g26, g27, g28, g29⟩ ⟨⟨.slice a1' LA k1', .slice a2' LR k2', .slice a3' LQ k3', .slice a4' LJ k4', .slice a5' LN k5'⟩, us, .slice a6' LT k6', ts⟩))
  case first =>

    have x1 : w0.drew.cell? ⟨w.heap.size, 1, none⟩ = some (.int .i64 g1) := blk_c (unhide S0).k1 rfl
    have x2 : w0.drew.cell? ⟨w.heap.size, 2, none⟩ = some (.int .i64 g2) := blk_c (unhide S0).k1 rfl
    have x3 : w0.drew.cell? ⟨w.heap.size, 3, none⟩ = some (.int .i64 g3) := blk_c (unhide S0).k1 rfl
    have x4 : w0.drew.cell? ⟨w.heap.size, 4, none⟩ = some (.int .i64 g4) := blk_c (unhide S0).k1 rfl
    have x5 : w0.drew.cell? ⟨w.heap.size, 5, none⟩ = some (.int .i64 g5) := blk_c (unhide S0).k1 rfl
    have x6 : w0.drew.cell? ⟨w.heap.size, 6, none⟩ = some (.bool g6) := blk_c (unhide S0).k1 rfl
    have x7 : w0.drew.cell? ⟨w.heap.size, 7, none⟩ = some (.slice a1 LA k1) := blk_c (unhide S0).k1 rfl
    have x8 : w0.drew.cell? ⟨w.heap.size, 8, none⟩ = some (.slice a2 LR k2) := blk_c (unhide S0).k1 rfl
    have x9 : w0.drew.cell? ⟨w.heap.size, 9, none⟩ = some (.slice a3 LQ k3) := blk_c (unhide S0).k1 rfl
    have x10 : w0.drew.cell? ⟨w.heap.size, 10, none⟩ = some (.slice a4 LJ k4) := blk_c (unhide S0).k1 rfl
    have x11 : w0.drew.cell? ⟨w.heap.size, 11, none⟩ = some (.int .i64 g11) := blk_c (unhide S0).k1 rfl
    have x12 : w0.drew.cell? ⟨w.heap.size, 12, none⟩ = some (.int .i64 g12) := blk_c (unhide S0).k1 rfl
    have x13 : w0.drew.cell? ⟨w.heap.size, 13, none⟩ = some (.slice a5 LN k5) := blk_c (unhide S0).k1 rfl
    have x14 : w0.drew.cell? ⟨w.heap.size, 14, none⟩ = some (.int .i64 g14) := blk_c (unhide S0).k1 rfl
    have x15 : w0.drew.cell? ⟨w.heap.size, 15, none⟩ = some (.int .i64 g15) := blk_c (unhide S0).k1 rfl
    have x21 : w0.drew.cell? ⟨w.heap.size, 21, none⟩ = some (.int .i64 g21) := blk_c (unhide S0).k1 rfl
    have x22 : w0.drew.cell? ⟨w.heap.size, 22, none⟩ = some (.int .i64 g22) := blk_c (unhide S0).k1 rfl
    have x23 : w0.drew.cell? ⟨w.heap.size, 23, none⟩ = some (.slice a6 LT k6) := blk_c (unhide S0).k1 rfl
    have x24 : w0.drew.cell? ⟨w.heap.size, 24, none⟩ = some (.int .i64 g24) := blk_c (unhide S0).k1 rfl
    have K1 := hide (unhide KA w0.drew (unhide S0).bel.drew)
    go_region_law (go_simp; go_wp2_with (first
      | (go_at_call 39; refine (unhide K1).mono ?_; rintro e_ zz ⟨a1', k1', a2', k2', a3', k3', a4', k4', a5', k5', us, rfl, ho1, b1⟩; have T1 := hide (((unhide S0).bw (Below.refl _ _).drew).bw b1); have y21 : zz.cell? ⟨w.heap.size, 21, none⟩ = some (.int .i64 g21) := blk_c (unhide T1).k1 rfl; have y22 : zz.cell? ⟨w.heap.size, 22, none⟩ = some (.int .i64 g22) := blk_c (unhide T1).k1 rfl; have y23 : zz.cell? ⟨w.heap.size, 23, none⟩ = some (.slice a6 LT k6) := blk_c (unhide T1).k1 rfl; have y24 : zz.cell? ⟨w.heap.size, 24, none⟩ = some (.int .i64 g24) := blk_c (unhide T1).k1 rfl; have K2 := hide (unhide KB g21 g22 g24 zz (unhide T1).bel); have HO1 := hide (And.intro ho1 b1); clear ho1 b1)
      | (go_at_call 61; refine (unhide K2).mono ?_; rintro e_ z2 ⟨a6', k6', ts, rfl, ho2, b2⟩; have T2 := hide ((unhide T1).bw b2); have u1 : z2.cell? ⟨w.heap.size, 1, none⟩ = some (.int .i64 g1) := blk_c (unhide T2).k1 rfl; have u2 : z2.cell? ⟨w.heap.size, 2, none⟩ = some (.int .i64 g2) := blk_c (unhide T2).k1 rfl; have u3 : z2.cell? ⟨w.heap.size, 3, none⟩ = some (.int .i64 g3) := blk_c (unhide T2).k1 rfl; have u4 : z2.cell? ⟨w.heap.size, 4, none⟩ = some (.int .i64 g4) := blk_c (unhide T2).k1 rfl; have u5 : z2.cell? ⟨w.heap.size, 5, none⟩ = some (.int .i64 g5) := blk_c (unhide T2).k1 rfl; have u6 : z2.cell? ⟨w.heap.size, 6, none⟩ = some (.bool g6) := blk_c (unhide T2).k1 rfl; have u7 : z2.cell? ⟨w.heap.size, 7, none⟩ = some (.slice a1 LA k1) := blk_c (unhide T2).k1 rfl; have u8 : z2.cell? ⟨w.heap.size, 8, none⟩ = some (.slice a2 LR k2) := blk_c (unhide T2).k1 rfl; have u9 : z2.cell? ⟨w.heap.size, 9, none⟩ = some (.slice a3 LQ k3) := blk_c (unhide T2).k1 rfl; have u10 : z2.cell? ⟨w.heap.size, 10, none⟩ = some (.slice a4 LJ k4) := blk_c (unhide T2).k1 rfl; have u11 : z2.cell? ⟨w.heap.size, 11, none⟩ = some (.int .i64 g11) := blk_c (unhide T2).k1 rfl; have u12 : z2.cell? ⟨w.heap.size, 12, none⟩ = some (.int .i64 g12) := blk_c (unhide T2).k1 rfl; have u13 : z2.cell? ⟨w.heap.size, 13, none⟩ = some (.slice a5 LN k5) := blk_c (unhide T2).k1 rfl; have u14 : z2.cell? ⟨w.heap.size, 14, none⟩ = some (.int .i64 g14) := blk_c (unhide T2).k1 rfl; have u15 : z2.cell? ⟨w.heap.size, 15, none⟩ = some (.int .i64 g15) := blk_c (unhide T2).k1 rfl; have u21 : z2.cell? ⟨w.heap.size, 21, none⟩ = some (.int .i64 g21) := blk_c (unhide T2).k1 rfl; have u22 : z2.cell? ⟨w.heap.size, 22, none⟩ = some (.int .i64 g22) := blk_c (unhide T2).k1 rfl; have u23 : z2.cell? ⟨w.heap.size, 23, none⟩ = some (.slice a6 LT k6) := blk_c (unhide T2).k1 rfl; have u24 : z2.cell? ⟨w.heap.size, 24, none⟩ = some (.int .i64 g24) := blk_c (unhide T2).k1 rfl; have fz := fun j => froz_b' (i := j) (unhide T2).k1; have HO2 := hide (And.intro ho2 b2); clear ho2 b2)))
    all_goals
      have HR := frMail_cut (unhide S0).two (unhide T1) (unhide T2) (unhide HO1).1 (unhide HO2).1 (unhide HO2).2
      go_wp2_with fail
      go_meet
      case rel => exact ⟨_, _, _, _, _, _, _, _, _, _, _, _, _, _, HR⟩
  case rest =>
  obtain ⟨a1', k1', a2', k2', a3', k3', a4', k4', a5', k5', us, a6', k6', ts, hcut⟩ := hcut
  clear KA KB S0
  have HS := HS0
  obtain ⟨V1, hV1⟩ : ∃ wd, wd = wc := ⟨_, rfl⟩
  rw [← hV1]
  have s2 : TwoB w V1 41 #[.int .u8 g0, .int .i64 g1, .int .i64 g2, .int .i64 g3, .int .i64 g4, .int .i64 g5, .bool g6, .slice a1' LA k1', .slice a2' LR k2', .slice a3' LQ k3', .slice a4' LJ k4', .int .i64 g11, .int .i64 g12, .slice a5' LN k5', .int .i64 g14, .int .i64 g15, .int .i64 g16, .int .i64 g17, .int .i64 g18, .int .i64 g19, .int .i64 g20, .int .i64 g21, .int .i64 g22, .slice a6' LT k6', .int .i64 g24, .int .i64 g25, .int .i64 g26, .int .i64 g27, .int .i64 g28, .int .i64 g29] ml0 := by rw [hV1]; exact (unhide hcut).1
  have om : OM (w.heap.size + 2) V1 ⟨g0, ⟨g1, g2, g3, g4, g5, g6, adds, rem, seals, joins, g11, g12, next, g14, g15⟩, g16, g17, g18, g19, g20, g21, g22, tr, g24, g25, g26, g27, g28, g29⟩ ⟨⟨.slice a1' LA k1', .slice a2' LR k2', .slice a3' LQ k3', .slice a4' LJ k4', .slice a5' LN k5'⟩, us, .slice a6' LT k6', ts⟩ := by rw [hV1]; exact (unhide hcut).2
  clear hcut hV1
  have h1 := all_oneCell_toArray (ml_one (om.rd (unhide HS)))
  obtain ⟨C1, hC1⟩ : ∃ C : Array Value, C = #[.int .u8 g0, .int .i64 g1, .int .i64 g2, .int .i64 g3, .int .i64 g4, .int .i64 g5, .bool g6, .slice a1' LA k1', .slice a2' LR k2', .slice a3' LQ k3', .slice a4' LJ k4', .int .i64 g11, .int .i64 g12, .slice a5' LN k5', .int .i64 g14, .int .i64 g15, .int .i64 g16, .int .i64 g17, .int .i64 g18, .int .i64 g19, .int .i64 g20, .int .i64 g21, .int .i64 g22, .slice a6' LT k6', .int .i64 g24, .int .i64 g25, .int .i64 g26, .int .i64 g27, .int .i64 g28, .int .i64 g29] := ⟨_, rfl⟩
  have z1 : C1.all (·.oneCell') = true := by rw [hC1]; exact h1
  have z0 : C1.size = 30 := by rw [hC1]; rfl
  have z2 : (Try.prog.info? 41).map (·.size) = some C1.size := by
    obtain ⟨j0, hj, _, hy1, _⟩ := info_parts infoKMail
    rw [z0, hj]; simp [hy1]
  rw [← hC1] at s2
  have HO : Hid (OM w.heap.size (V1.setRow (w.heap.size + 1) C1) ⟨g0, ⟨g1, g2, g3, g4, g5, g6, adds, rem, seals, joins, g11, g12, next, g14, g15⟩, g16, g17, g18, g19, g20, g21, g22, tr, g24, g25, g26, g27, g28, g29⟩ ⟨⟨.slice a1' LA k1', .slice a2' LR k2', .slice a3' LQ k3', .slice a4' LJ k4', .slice a5' LN k5'⟩, us, .slice a6' LT k6', ts⟩ ∧ Below w.heap.size w (V1.setRow (w.heap.size + 1) C1)) :=
    ⟨(om.keep (fun k hk => setRow_other _ _ _ _ (by have := (om.lt k hk).1; omega))).mono (by omega), below_setRow' s2.bel (by omega) _⟩
  have HC := hide hC1
  have HZ := hide (And.intro s2.k1 (And.intro s2.k2 (And.intro z0 (And.intro z1 z2))))
  clear om s2 hC1 z0 z1 z2 h1 HS
  go_wp2_with (first | refine wpList_load_row rfl 41 (.tmp 1) rfl w.heap.size rfl 41 C1 (0, 0) _ (unhide HZ).1 Try.underlying41 rfl (unhide HZ).2.2.2.2 ?_ | refine wpList_store_row rfl 41 (.tmp 2) (.tmp 11) rfl (w.heap.size + 1) C1 rfl rfl 41 ml0 (unhide HZ).2.1 (unhide HZ).2.2.2.2 (by rw [(unhide HZ).2.2.1]; rfl) (unhide HZ).2.2.2.1 ?_)
  refine bodyPost_ret (v := .agg C1) (results_cell_row Try.results40 _ _ (w.heap.size + 1) 41 C1 (0, 0) _ rfl (setRow_heap _ _ _ _ _ _ (unhide HZ).2.1) Try.underlying41 rfl (unhide HZ).2.2.2.2) rfl ⟨⟨⟨.slice a1' LA k1', .slice a2' LR k2', .slice a3' LQ k3', .slice a4' LJ k4', .slice a5' LN k5'⟩, us, .slice a6' LT k6', ts⟩, by rw [unhide HC], (unhide HO).1, (unhide HO).2⟩
end Go.Proofs.Ytgiicendejgklaa

/- Feeds, earlies, links and packets in memory: what they read as, and of one's own. No walk is in this text. mkQuA.py writes it. -/
namespace Go.Proofs.Ytgiicendejgklaa
open Go.RowKit Go.Maps
structure Fd where
  kd : Int
  tu : Int
  fr : Int
  cm : Cm
  ml : Ml
  n0 : Int
  n1 : Int
  n2 : Int
  n3 : Int
  n4 : Int
structure Fx where
  cx : Cv
  us : List Value
  mx : Mx
def fdT (f : Fd) : List Value := [.int .i64 f.n0, .int .i64 f.n1, .int .i64 f.n2, .int .i64 f.n3, .int .i64 f.n4]
def fdC (f : Fd) (x : Fx) : List Value := .int .u8 f.kd :: .int .i64 f.tu :: .int .i64 f.fr :: (cmC f.cm x.cx ++ (mlC f.ml x.mx ++ fdT f))
theorem cmC_len (c : Cm) (x : Cv) : (cmC c x).length = 15 := rfl
theorem mlC_len' (m : Ml) (x : Mx) : (mlC m x).length = 30 := rfl
theorem fdC_len (f : Fd) (x : Fx) : (fdC f x).length = 53 := rfl
def fd0 : Array Value := #[.int .u8 0, .int .i64 0, .int .i64 0, .int .i64 0, .int .i64 0, .int .i64 0, .int .i64 0, .int .i64 0, .bool false, .slice none 0 0, .slice none 0 0, .slice none 0 0, .slice none 0 0, .int .i64 0, .int .i64 0, .slice none 0 0, .int .i64 0, .int .i64 0, .int .u8 0, .int .i64 0, .int .i64 0, .int .i64 0, .int .i64 0, .int .i64 0, .bool false, .slice none 0 0, .slice none 0 0, .slice none 0 0, .slice none 0 0, .int .i64 0, .int .i64 0, .slice none 0 0, .int .i64 0, .int .i64 0, .int .i64 0, .int .i64 0, .int .i64 0, .int .i64 0, .int .i64 0, .int .i64 0, .int .i64 0, .slice none 0 0, .int .i64 0, .int .i64 0, .int .i64 0, .int .i64 0, .int .i64 0, .int .i64 0, .int .i64 0, .int .i64 0, .int .i64 0, .int .i64 0, .int .i64 0]
structure FdR (w : World) (f : Fd) (x : Fx) : Prop where
  c : CmR w f.cm x.cx
  m : MlR w f.ml x.mx
theorem FdR.bw {w w' : World} {f : Fd} {x : Fx} (h : FdR w f x) (hb : Below w.heap.size w w') : FdR w' f x := ⟨h.c.bw hb, h.m.bw hb⟩
structure SmF (f : Fd) : Prop where
  c : SmC f.cm
  m : SmM f.ml
  b : ∀ z ∈ [f.n0, f.n1, f.n2, f.n3, f.n4], -9223372036854775808 ≤ z ∧ z ≤ 9223372036854775807
def fxZ (x : Fx) : List Nat := cvZ x.cx x.us ++ mxZ x.mx
structure OF (B : Nat) (w : World) (f : Fd) (x : Fx) : Prop where
  c : OC B w f.cm x.cx x.us
  m : OM B w f.ml x.mx
  ap : ∀ k ∈ cvZ x.cx x.us, k ∉ mxZ x.mx
theorem OF.rd {B : Nat} {w : World} {f : Fd} {x : Fx} (h : OF B w f x) (hs : SmF f) : FdR w f x := ⟨h.c.rd hs.c, h.m.rd hs.m⟩
theorem OF.keep {B : Nat} {w w' : World} {f : Fd} {x : Fx} (h : OF B w f x) (hk : ∀ k ∈ fxZ x, w'.heap[k]? = w.heap[k]?) : OF B w' f x :=
  ⟨h.c.keep (fun k hq => hk k (List.mem_append_left _ hq)), h.m.keep (fun k hq => hk k (List.mem_append_right _ hq)), h.ap⟩
theorem OF.lt {B : Nat} {w : World} {f : Fd} {x : Fx} (h : OF B w f x) : ∀ k ∈ fxZ x, B ≤ k ∧ k < w.heap.size := by
  intro k hk
  rcases List.mem_append.1 hk with q | q
  · exact h.c.lt k q
  · exact h.m.lt k q
theorem OF.mono {B B' : Nat} {w : World} {f : Fd} {x : Fx} (h : OF B w f x) (hB : B' ≤ B) : OF B' w f x := ⟨h.c.mono hB, h.m.mono hB, h.ap⟩
set_option maxRecDepth 100000 in
theorem cm_one {w : World} {c : Cm} {x : Cv} (h : CmR w c x) : ∀ u ∈ cmC c x, u.oneCell' = true := by
  obtain ⟨a1, k1, e1⟩ := h.adds.slice
  obtain ⟨a2, k2, e2⟩ := nums_slice h.rem
  obtain ⟨a3, k3, e3⟩ := h.seals.slice
  obtain ⟨a4, k4, e4⟩ := h.joins.slice
  obtain ⟨a5, k5, e5⟩ := h.next.slice
  have : (cmC c x).all (fun u => u.oneCell') = true := by
    simp only [cmC, e1, e2, e3, e4, e5, List.all_cons, List.all_nil]
    rfl
  exact fun u hu => List.all_eq_true.1 this u hu
theorem fd_one {w : World} {f : Fd} {x : Fx} (h : FdR w f x) : ∀ u ∈ fdC f x, u.oneCell' = true := by
  intro u hu
  unfold fdC at hu
  simp only [List.mem_cons, List.mem_append] at hu
  rcases hu with rfl | rfl | rfl | hu | hu | hu
  · rfl
  · rfl
  · rfl
  · exact cm_one h.c u hu
  · exact ml_one h.m u hu
  · unfold fdT at hu
    simp only [List.mem_cons, List.not_mem_nil, or_false] at hu
    rcases hu with rfl | rfl | rfl | rfl | rfl <;> rfl
def kFd : EK Fd Fx where
  t := 43
  c := 53
  C := fdC
  Z := fxZ
  R := fun w f x => FdR w f x ∧ SmF f
  O := OF
  pos := by decide
  Cl := fdC_len
  one := fun w f x h v hv => fd_one h.1 v hv
  bw := fun w w' f x h hb => ⟨h.1.bw hb, h.2⟩
  keep := fun B w w' f x h hk => OF.keep h hk
  lt := fun B w f x h => OF.lt h
  mono := fun B B' w f x h hB => OF.mono h hB
structure Er where
  sq : Int
  fd : Fd
def erC (e : Er) (x : Fx) : List Value := .int .i64 e.sq :: fdC e.fd x
theorem erC_len (e : Er) (x : Fx) : (erC e x).length = 54 := rfl
def er0 : Array Value := #[.int .i64 0, .int .u8 0, .int .i64 0, .int .i64 0, .int .i64 0, .int .i64 0, .int .i64 0, .int .i64 0, .int .i64 0, .bool false, .slice none 0 0, .slice none 0 0, .slice none 0 0, .slice none 0 0, .int .i64 0, .int .i64 0, .slice none 0 0, .int .i64 0, .int .i64 0, .int .u8 0, .int .i64 0, .int .i64 0, .int .i64 0, .int .i64 0, .int .i64 0, .bool false, .slice none 0 0, .slice none 0 0, .slice none 0 0, .slice none 0 0, .int .i64 0, .int .i64 0, .slice none 0 0, .int .i64 0, .int .i64 0, .int .i64 0, .int .i64 0, .int .i64 0, .int .i64 0, .int .i64 0, .int .i64 0, .int .i64 0, .slice none 0 0, .int .i64 0, .int .i64 0, .int .i64 0, .int .i64 0, .int .i64 0, .int .i64 0, .int .i64 0, .int .i64 0, .int .i64 0, .int .i64 0, .int .i64 0]
theorem er_one {w : World} {e : Er} {x : Fx} (h : FdR w e.fd x) : ∀ u ∈ erC e x, u.oneCell' = true := by
  intro u hu
  unfold erC at hu
  rcases List.mem_cons.1 hu with rfl | hu
  · rfl
  · exact fd_one h u hu
def kEr : EK Er Fx where
  t := 87
  c := 54
  C := erC
  Z := fxZ
  R := fun w e x => FdR w e.fd x ∧ SmF e.fd
  O := fun B w e x => OF B w e.fd x
  pos := by decide
  Cl := erC_len
  one := fun w e x h v hv => er_one h.1 v hv
  bw := fun w w' e x h hb => ⟨h.1.bw hb, h.2⟩
  keep := fun B w w' e x h hk => OF.keep h hk
  lt := fun B w e x h => OF.lt h
  mono := fun B B' w e x h hB => OF.mono h hB
structure Lk where
  pe : Int
  nx : Int
  q : List Fd
  ex : Int
  ea : List Er
structure Lx where
  qv : Value
  qx : List Fx
  ev : Value
  ex : List Fx
def lkC (l : Lk) (qv ev : Value) : List Value := [.int .i64 l.pe, .int .i64 l.nx, qv, .int .i64 l.ex, ev]
def lk0 : Array Value := #[.int .i64 0, .int .i64 0, .slice none 0 0, .int .i64 0, .slice none 0 0]
structure SmL (l : Lk) : Prop where
  qn : l.q.length ≤ 1073741824
  en : l.ea.length ≤ 1073741824
  qs : ∀ f ∈ l.q, SmF f
  es : ∀ e ∈ l.ea, SmF e.fd
structure LkR (w : World) (l : Lk) (x : Lx) : Prop where
  q : RdL kFd w x.qv l.q x.qx
  e : RdL kEr w x.ev l.ea x.ex
theorem LkR.bw {w w' : World} {l : Lk} {x : Lx} (h : LkR w l x) (hb : Below w.heap.size w w') : LkR w' l x := ⟨h.q.bw hb, h.e.bw hb⟩
def lxZ (x : Lx) : List Nat := zK kFd x.qv x.qx ++ zK kEr x.ev x.ex
structure OL (B : Nat) (w : World) (l : Lk) (x : Lx) : Prop where
  q : OwL kFd B w x.qv l.q x.qx
  e : OwL kEr B w x.ev l.ea x.ex
  ap : ∀ k ∈ zK kFd x.qv x.qx, k ∉ zK kEr x.ev x.ex
theorem OL.keep {B : Nat} {w w' : World} {l : Lk} {x : Lx} (h : OL B w l x) (hk : ∀ k ∈ lxZ x, w'.heap[k]? = w.heap[k]?) : OL B w' l x :=
  ⟨h.q.keep (fun k hq => hk k (List.mem_append_left _ hq)), h.e.keep (fun k hq => hk k (List.mem_append_right _ hq)), h.ap⟩
theorem OL.lt {B : Nat} {w : World} {l : Lk} {x : Lx} (h : OL B w l x) : ∀ k ∈ lxZ x, B ≤ k ∧ k < w.heap.size := by
  intro k hk
  rcases List.mem_append.1 hk with q | q
  · exact h.q.lt k q
  · exact h.e.lt k q
theorem OL.mono {B B' : Nat} {w : World} {l : Lk} {x : Lx} (h : OL B w l x) (hB : B' ≤ B) : OL B' w l x := ⟨h.q.mono hB, h.e.mono hB, h.ap⟩
theorem OwL.fds {B : Nat} {w : World} {v : Value} {l : List Fd} {xs : List Fx} (h : OwL kFd B w v l xs) (hs : ∀ f ∈ l, SmF f) : RdL kFd w v l xs :=
  h.rd (fun _ f _ hi _ ho => ⟨OF.rd ho (hs f (List.mem_of_getElem? hi)), hs f (List.mem_of_getElem? hi)⟩)
theorem OwL.ers {B : Nat} {w : World} {v : Value} {l : List Er} {xs : List Fx} (h : OwL kEr B w v l xs) (hs : ∀ e ∈ l, SmF e.fd) : RdL kEr w v l xs :=
  h.rd (fun _ e _ hi _ ho => ⟨OF.rd ho (hs e (List.mem_of_getElem? hi)), hs e (List.mem_of_getElem? hi)⟩)
theorem OL.rd {B : Nat} {w : World} {l : Lk} {x : Lx} (h : OL B w l x) (hs : SmL l) : LkR w l x := ⟨OwL.fds h.q hs.qs, OwL.ers h.e hs.es⟩
theorem lk_one {w : World} {l : Lk} {x : Lx} (h : LkR w l x) : ∀ u ∈ lkC l x.qv x.ev, u.oneCell' = true := by
  intro u hu
  obtain ⟨a1, k1, e1⟩ := rdl_slice h.q
  obtain ⟨a2, k2, e2⟩ := rdl_slice h.e
  simp only [lkC, e1, e2, List.mem_cons, List.not_mem_nil, or_false] at hu
  rcases hu with rfl | rfl | rfl | rfl | rfl <;> rfl
def kLk : EK Lk Lx where
  t := 73
  c := 5
  C := fun l x => lkC l x.qv x.ev
  Z := lxZ
  R := fun w l x => LkR w l x ∧ SmL l
  O := OL
  pos := by decide
  Cl := fun _ _ => rfl
  one := fun w l x h v hv => lk_one h.1 v hv
  bw := fun w w' l x h hb => ⟨h.1.bw hb, h.2⟩
  keep := fun B w w' l x h hk => OL.keep h hk
  lt := fun B w l x h => OL.lt h
  mono := fun B B' w l x h hB => OL.mono h hB
theorem OwL.lks {B : Nat} {w : World} {v : Value} {l : List Lk} {xs : List Lx} (h : OwL kLk B w v l xs) (hs : ∀ b ∈ l, SmL b) : RdL kLk w v l xs :=
  h.rd (fun _ b _ hi _ ho => ⟨OL.rd ho (hs b (List.mem_of_getElem? hi)), hs b (List.mem_of_getElem? hi)⟩)
structure Pt where
  fr : Int
  tu : Int
  ack : Bool
  sq : Int
  fd : Fd
def ptC (p : Pt) (x : Fx) : List Value := .int .i64 p.fr :: .int .i64 p.tu :: .bool p.ack :: .int .i64 p.sq :: fdC p.fd x
theorem ptC_len (p : Pt) (x : Fx) : (ptC p x).length = 57 := rfl
def pt0 : Array Value := #[.int .i64 0, .int .i64 0, .bool false, .int .i64 0, .int .u8 0, .int .i64 0, .int .i64 0, .int .i64 0, .int .i64 0, .int .i64 0, .int .i64 0, .int .i64 0, .bool false, .slice none 0 0, .slice none 0 0, .slice none 0 0, .slice none 0 0, .int .i64 0, .int .i64 0, .slice none 0 0, .int .i64 0, .int .i64 0, .int .u8 0, .int .i64 0, .int .i64 0, .int .i64 0, .int .i64 0, .int .i64 0, .bool false, .slice none 0 0, .slice none 0 0, .slice none 0 0, .slice none 0 0, .int .i64 0, .int .i64 0, .slice none 0 0, .int .i64 0, .int .i64 0, .int .i64 0, .int .i64 0, .int .i64 0, .int .i64 0, .int .i64 0, .int .i64 0, .int .i64 0, .slice none 0 0, .int .i64 0, .int .i64 0, .int .i64 0, .int .i64 0, .int .i64 0, .int .i64 0, .int .i64 0, .int .i64 0, .int .i64 0, .int .i64 0, .int .i64 0]
theorem pt_one {w : World} {p : Pt} {x : Fx} (h : FdR w p.fd x) : ∀ u ∈ ptC p x, u.oneCell' = true := by
  intro u hu
  unfold ptC at hu
  simp only [List.mem_cons] at hu
  rcases hu with rfl | rfl | rfl | rfl | hu
  · rfl
  · rfl
  · rfl
  · rfl
  · exact fd_one h u hu
def kPk : EK Pt Fx where
  t := 45
  c := 57
  C := ptC
  Z := fxZ
  R := fun w p x => FdR w p.fd x ∧ SmF p.fd
  O := fun B w p x => OF B w p.fd x
  pos := by decide
  Cl := ptC_len
  one := fun w p x h v hv => pt_one h.1 v hv
  bw := fun w w' p x h hb => ⟨h.1.bw hb, h.2⟩
  keep := fun B w w' p x h hk => OF.keep h hk
  lt := fun B w p x h => OF.lt h
  mono := fun B B' w p x h hB => OF.mono h hB
end Go.Proofs.Ytgiicendejgklaa

/- The library's slices.Clone, at feeds, earlies and links. mkQuA.py writes it. -/
namespace Go.Proofs.Ytgiicendejgklaa
open Go.RowKit Go.Maps
theorem infoKFeed : (Try.prog.info? 43).map (fun i => (i.zero, i.size, i.bytes)) = some (some (.agg fd0), 53, 600) := by kernel_rfl
set_option maxRecDepth 100000 in
set_option maxHeartbeats 4000000 in
theorem cloneFeed_any {w : World} {a : Option Addr} {n cap : Nat} {cs : List Value} (hl : cs.length = n * 53) (h1 : ∀ u ∈ cs, u.oneCell' = true) (hn : n ≤ 1073741824) (hc : n = 0 ∨ ∃ g o, a = some ⟨g, o, none⟩ ∧ ∀ j u, cs[j]? = some u → w.cell? ⟨g, o + j, none⟩ = some u) :
    Calls Try.prog 69 #[.slice a n cap] w fun e w' => ∃ v', e = .returned v' ∧ w'.ownsRow w.heap.size 43 53 v' n cs ∧ Below w.heap.size w w' := by
  obtain ⟨j0, hj, hy0, hy1, hyb⟩ := info_parts infoKFeed
  have hnil := fun (W : World) => Lib.run_eql_slice_nil (P := Try.prog) W 52 43 a n cap 0 0 Try.underlying52
  cases a with
  | none =>
    have hn0 : n = 0 := by
      rcases hc with c | ⟨g, o, c, _⟩
      · exact c
      · cases c
    subst hn0
    have hcs : cs = [] := List.eq_nil_of_length_eq_zero (by omega)
    subst hcs
    clear hc
    simp only [Option.isNone_none] at hnil ⊢
    go_enter Try.func69, Try.ntmps69
    go_wp2_with fail
    go_ret
    exact ⟨_, rfl, World.ownsRow_nil _ _ _ _, Below.refl _ _⟩
  | some ad =>
    have hcell : ∀ (W : World), Below w.heap.size w W → ∀ j u, cs[j]? = some u → W.cell? (ad.add j) = some u := by
      intro W hW j u hj
      rcases hc with c | ⟨g, o, c, hc⟩
      · have : cs = [] := List.eq_nil_of_length_eq_zero (by omega)
        subst this; simp at hj
      · simp at c; subst c
        have := hc j u hj
        have e : (⟨g, o, none⟩ : Addr).add j = ⟨g, o + j, none⟩ := by unfold Addr.add; by_cases hz : j = 0 <;> simp [hz]
        rw [e, World.cell?_of_block (w := w) (hW.block _ (lt_of_cell this))]
        exact this
    have hrow := World.ownsRow_made (base := w.heap.size) (e := 43) (size := 53) w #[] 0 (Nat.le_refl _) (by unfold maxLen; omega) rfl
    have HH := hide (And.intro hcell (And.intro h1 (And.intro hn hl)))
    clear hc hcell h1 hl hn
    go_enter Try.func69, Try.ntmps69
    go_wp2_with (at_builtin; refine wpList_append_own_at _ rfl (.tmp 5) (.tmp 6) 52 rfl w.heap.size 43 j0 (.agg fd0) 53 600 Try.underlying52 hj hy0 hy1 hyb rfl (by decide) _ 0 [] rfl hrow ad n cap cs rfl (unhide HH).2.2.2 ((unhide HH).1 _ (bwA _ _)) (unhide HH).2.1 ?c3 ?c4 ?c5 ?nx)
    case c3 => have := (unhide HH).2.2.1; unfold maxLen; omega
    case c4 => have := (unhide HH).2.2.1; omega
    case c5 => simp
    case nx =>
      intro v' w3 hown' hgrow _ hat
      have hb3 : Below w.heap.size w w3 := (bwA w _).grown hgrow (by simp) (fun k hk => by simp [Value.ownBlock] at hk; omega)
      have hown2 : w3.ownsRow w.heap.size 43 53 v' n cs := by simpa using hown'
      have HO := hide (And.intro hown2 hb3)
      clear hown' hgrow hat hown2 hb3
      go_wp2_with fail
      go_ret
      exact ⟨_, rfl, (unhide HO).1, (unhide HO).2⟩
theorem infoKEarly : (Try.prog.info? 87).map (fun i => (i.zero, i.size, i.bytes)) = some (some (.agg er0), 54, 608) := by kernel_rfl
set_option maxRecDepth 100000 in
set_option maxHeartbeats 4000000 in
theorem cloneEarly_any {w : World} {a : Option Addr} {n cap : Nat} {cs : List Value} (hl : cs.length = n * 54) (h1 : ∀ u ∈ cs, u.oneCell' = true) (hn : n ≤ 1073741824) (hc : n = 0 ∨ ∃ g o, a = some ⟨g, o, none⟩ ∧ ∀ j u, cs[j]? = some u → w.cell? ⟨g, o + j, none⟩ = some u) :
    Calls Try.prog 70 #[.slice a n cap] w fun e w' => ∃ v', e = .returned v' ∧ w'.ownsRow w.heap.size 87 54 v' n cs ∧ Below w.heap.size w w' := by
  obtain ⟨j0, hj, hy0, hy1, hyb⟩ := info_parts infoKEarly
  have hnil := fun (W : World) => Lib.run_eql_slice_nil (P := Try.prog) W 71 87 a n cap 0 0 Try.underlying71
  cases a with
  | none =>
    have hn0 : n = 0 := by
      rcases hc with c | ⟨g, o, c, _⟩
      · exact c
      · cases c
    subst hn0
    have hcs : cs = [] := List.eq_nil_of_length_eq_zero (by omega)
    subst hcs
    clear hc
    simp only [Option.isNone_none] at hnil ⊢
    go_enter Try.func70, Try.ntmps70
    go_wp2_with fail
    go_ret
    exact ⟨_, rfl, World.ownsRow_nil _ _ _ _, Below.refl _ _⟩
  | some ad =>
    have hcell : ∀ (W : World), Below w.heap.size w W → ∀ j u, cs[j]? = some u → W.cell? (ad.add j) = some u := by
      intro W hW j u hj
      rcases hc with c | ⟨g, o, c, hc⟩
      · have : cs = [] := List.eq_nil_of_length_eq_zero (by omega)
        subst this; simp at hj
      · simp at c; subst c
        have := hc j u hj
        have e : (⟨g, o, none⟩ : Addr).add j = ⟨g, o + j, none⟩ := by unfold Addr.add; by_cases hz : j = 0 <;> simp [hz]
        rw [e, World.cell?_of_block (w := w) (hW.block _ (lt_of_cell this))]
        exact this
    have hrow := World.ownsRow_made (base := w.heap.size) (e := 87) (size := 54) w #[] 0 (Nat.le_refl _) (by unfold maxLen; omega) rfl
    have HH := hide (And.intro hcell (And.intro h1 (And.intro hn hl)))
    clear hc hcell h1 hl hn
    go_enter Try.func70, Try.ntmps70
    go_wp2_with (at_builtin; refine wpList_append_own_at _ rfl (.tmp 5) (.tmp 6) 71 rfl w.heap.size 87 j0 (.agg er0) 54 608 Try.underlying71 hj hy0 hy1 hyb rfl (by decide) _ 0 [] rfl hrow ad n cap cs rfl (unhide HH).2.2.2 ((unhide HH).1 _ (bwA _ _)) (unhide HH).2.1 ?c3 ?c4 ?c5 ?nx)
    case c3 => have := (unhide HH).2.2.1; unfold maxLen; omega
    case c4 => have := (unhide HH).2.2.1; omega
    case c5 => simp
    case nx =>
      intro v' w3 hown' hgrow _ hat
      have hb3 : Below w.heap.size w w3 := (bwA w _).grown hgrow (by simp) (fun k hk => by simp [Value.ownBlock] at hk; omega)
      have hown2 : w3.ownsRow w.heap.size 87 54 v' n cs := by simpa using hown'
      have HO := hide (And.intro hown2 hb3)
      clear hown' hgrow hat hown2 hb3
      go_wp2_with fail
      go_ret
      exact ⟨_, rfl, (unhide HO).1, (unhide HO).2⟩
theorem infoKLink : (Try.prog.info? 73).map (fun i => (i.zero, i.size, i.bytes)) = some (some (.agg lk0), 5, 72) := by kernel_rfl
set_option maxRecDepth 100000 in
set_option maxHeartbeats 4000000 in
theorem cloneLink_any {w : World} {a : Option Addr} {n cap : Nat} {cs : List Value} (hl : cs.length = n * 5) (h1 : ∀ u ∈ cs, u.oneCell' = true) (hn : n ≤ 1073741824) (hc : n = 0 ∨ ∃ g o, a = some ⟨g, o, none⟩ ∧ ∀ j u, cs[j]? = some u → w.cell? ⟨g, o + j, none⟩ = some u) :
    Calls Try.prog 50 #[.slice a n cap] w fun e w' => ∃ v', e = .returned v' ∧ w'.ownsRow w.heap.size 73 5 v' n cs ∧ Below w.heap.size w w' := by
  obtain ⟨j0, hj, hy0, hy1, hyb⟩ := info_parts infoKLink
  have hnil := fun (W : World) => Lib.run_eql_slice_nil (P := Try.prog) W 22 73 a n cap 0 0 Try.underlying22
  cases a with
  | none =>
    have hn0 : n = 0 := by
      rcases hc with c | ⟨g, o, c, _⟩
      · exact c
      · cases c
    subst hn0
    have hcs : cs = [] := List.eq_nil_of_length_eq_zero (by omega)
    subst hcs
    clear hc
    simp only [Option.isNone_none] at hnil ⊢
    go_enter Try.func50, Try.ntmps50
    go_wp2_with fail
    go_ret
    exact ⟨_, rfl, World.ownsRow_nil _ _ _ _, Below.refl _ _⟩
  | some ad =>
    have hcell : ∀ (W : World), Below w.heap.size w W → ∀ j u, cs[j]? = some u → W.cell? (ad.add j) = some u := by
      intro W hW j u hj
      rcases hc with c | ⟨g, o, c, hc⟩
      · have : cs = [] := List.eq_nil_of_length_eq_zero (by omega)
        subst this; simp at hj
      · simp at c; subst c
        have := hc j u hj
        have e : (⟨g, o, none⟩ : Addr).add j = ⟨g, o + j, none⟩ := by unfold Addr.add; by_cases hz : j = 0 <;> simp [hz]
        rw [e, World.cell?_of_block (w := w) (hW.block _ (lt_of_cell this))]
        exact this
    have hrow := World.ownsRow_made (base := w.heap.size) (e := 73) (size := 5) w #[] 0 (Nat.le_refl _) (by unfold maxLen; omega) rfl
    have HH := hide (And.intro hcell (And.intro h1 (And.intro hn hl)))
    clear hc hcell h1 hl hn
    go_enter Try.func50, Try.ntmps50
    go_wp2_with (at_builtin; refine wpList_append_own_at _ rfl (.tmp 5) (.tmp 6) 22 rfl w.heap.size 73 j0 (.agg lk0) 5 72 Try.underlying22 hj hy0 hy1 hyb rfl (by decide) _ 0 [] rfl hrow ad n cap cs rfl (unhide HH).2.2.2 ((unhide HH).1 _ (bwA _ _)) (unhide HH).2.1 ?c3 ?c4 ?c5 ?nx)
    case c3 => have := (unhide HH).2.2.1; unfold maxLen; omega
    case c4 => have := (unhide HH).2.2.1; omega
    case c5 => simp
    case nx =>
      intro v' w3 hown' hgrow _ hat
      have hb3 : Below w.heap.size w w3 := (bwA w _).grown hgrow (by simp) (fun k hk => by simp [Value.ownBlock] at hk; omega)
      have hown2 : w3.ownsRow w.heap.size 73 5 v' n cs := by simpa using hown'
      have HO := hide (And.intro hown2 hb3)
      clear hown' hgrow hat hown2 hb3
      go_wp2_with fail
      go_ret
      exact ⟨_, rfl, (unhide HO).1, (unhide HO).2⟩
end Go.Proofs.Ytgiicendejgklaa

/- What a heap is, plainly: up, down, push, pop. No program is in this text. -/
namespace Go.Proofs.Ytgiicendejgklaa
def hsw {α : Type} (F : Nat → α) (i j : Nat) : Nat → α := fun t => if t = i then F j else if t = j then F i else F t
def HP {α : Type} (k : α → Int) (F : Nat → α) (n : Nat) : Prop := ∀ i, 0 < i → i < n → k (F ((i - 1) / 2)) ≤ k (F i)
def HU {α : Type} (k : α → Int) (F : Nat → α) (n j : Nat) : Prop :=
  (∀ i, 0 < i → i < n → i ≠ j → k (F ((i - 1) / 2)) ≤ k (F i)) ∧ (∀ i, 0 < i → i < n → (i - 1) / 2 = j → 0 < j → k (F ((j - 1) / 2)) ≤ k (F i))
def HD {α : Type} (k : α → Int) (F : Nat → α) (n j : Nat) : Prop :=
  (∀ i, 0 < i → i < n → (i - 1) / 2 ≠ j → k (F ((i - 1) / 2)) ≤ k (F i)) ∧ (∀ i, 0 < i → i < n → (i - 1) / 2 = j → 0 < j → k (F ((j - 1) / 2)) ≤ k (F i))
theorem hsw_l {α : Type} (F : Nat → α) (i j : Nat) : hsw F i j i = F j := by simp [hsw]
theorem hsw_r {α : Type} (F : Nat → α) (i j : Nat) : hsw F i j j = F i := by by_cases h : j = i <;> simp [hsw, h]
theorem hsw_o {α : Type} (F : Nat → α) {i j t : Nat} (h1 : t ≠ i) (h2 : t ≠ j) : hsw F i j t = F t := by simp [hsw, h1, h2]
theorem HU.top {α : Type} {k : α → Int} {F : Nat → α} {n : Nat} (h : HU k F n 0) : HP k F n := fun i h0 hn => h.1 i h0 hn (by omega)
theorem HU.done {α : Type} {k : α → Int} {F : Nat → α} {n j : Nat} (h : HU k F n j) (hj : 0 < j) (hl : ¬ k (F j) < k (F ((j - 1) / 2))) : HP k F n := fun i h0 hn => by
  by_cases c : i = j
  · subst c; omega
  · exact h.1 i h0 hn c
theorem HU.step {α : Type} {k : α → Int} {F : Nat → α} {n j : Nat} (h : HU k F n j) (hj : 0 < j) (hn : j < n) (hl : k (F j) < k (F ((j - 1) / 2))) : HU k (hsw F ((j - 1) / 2) j) n ((j - 1) / 2) := by
  obtain ⟨p, hp⟩ : ∃ p, p = (j - 1) / 2 := ⟨_, rfl⟩
  rw [← hp] at hl ⊢
  have hpj : p < j := by omega
  refine ⟨fun i h0 hi hne => ?_, fun i h0 hi he hp0 => ?_⟩
  · obtain ⟨q, hq⟩ : ∃ q, q = (i - 1) / 2 := ⟨_, rfl⟩
    rw [← hq]
    by_cases c : i = j
    · subst c
      have e : q = p := by rw [hq, hp]
      subst e
      rw [hsw_l, hsw_r]
      omega
    · have h1 := h.1 i h0 hi c
      rw [← hq] at h1
      by_cases c2 : q = j
      · subst c2
        rw [hsw_r, hsw_o F hne c]
        have := h.2 i h0 hi (by rw [hq]) (by omega)
        rw [← hp] at this
        exact this
      · by_cases c3 : q = p
        · subst c3
          rw [hsw_l, hsw_o F hne c]
          omega
        · rw [hsw_o F c3 c2, hsw_o F hne c]
          exact h1
  · have e1 : ∀ q, q = (p - 1) / 2 → q < p := fun q hq => by omega
    obtain ⟨q, hq⟩ : ∃ q, q = (p - 1) / 2 := ⟨_, rfl⟩
    have hqp := e1 q hq
    have h2 := h.1 p hp0 (by omega) (by omega)
    rw [← hq] at h2 ⊢
    rw [hsw_o F (show q ≠ p by omega) (show q ≠ j by omega)]
    by_cases c : i = j
    · subst c
      rw [hsw_r]
      exact h2
    · have h3 := h.1 i h0 hi c
      rw [he] at h3
      rw [hsw_o F (show i ≠ p by omega) c]
      omega
theorem HP.push {α : Type} {k : α → Int} {F : Nat → α} {n : Nat} (h : HP k F n) (x : α) : HU k (fun t => if t = n then x else F t) (n + 1) n := by
  refine ⟨fun i h0 hi hne => ?_, fun i h0 hi he h1 => ?_⟩
  · have : (i - 1) / 2 ≠ n := by omega
    simp only [this, hne, if_false]
    exact h i h0 (by omega)
  · omega
theorem HD.stop {α : Type} {k : α → Int} {F : Nat → α} {n i : Nat} (h : HD k F n i) (hn : n ≤ 2 * i + 1) : HP k F n := fun c h0 hc => h.1 c h0 hc (by omega)
theorem HD.done {α : Type} {k : α → Int} {F : Nat → α} {n i j : Nat} (h : HD k F n i) (hm : ∀ c, 0 < c → c < n → (c - 1) / 2 = i → k (F j) ≤ k (F c)) (hl : ¬ k (F j) < k (F i)) : HP k F n := fun c h0 hc => by
  by_cases e : (c - 1) / 2 = i
  · have := hm c h0 hc e
    rw [e]; omega
  · exact h.1 c h0 hc e
theorem HD.step {α : Type} {k : α → Int} {F : Nat → α} {n i j : Nat} (h : HD k F n i) (hj : j = 2 * i + 1 ∨ j = 2 * i + 2) (hn : j < n) (hm : ∀ c, 0 < c → c < n → (c - 1) / 2 = i → k (F j) ≤ k (F c)) (hl : k (F j) < k (F i)) : HD k (hsw F i j) n j := by
  have hpj : (j - 1) / 2 = i := by omega
  refine ⟨fun c h0 hc hne => ?_, fun c h0 hc he hj0 => ?_⟩
  · obtain ⟨q, hq⟩ : ∃ q, q = (c - 1) / 2 := ⟨_, rfl⟩
    rw [← hq] at hne ⊢
    have hqc : q < c := by omega
    by_cases c1 : q = i
    · subst c1
      rw [hsw_l]
      by_cases c2 : c = j
      · subst c2; rw [hsw_r]; omega
      · rw [hsw_o F (by omega) c2]
        exact hm c h0 hc hq.symm
    · rw [hsw_o F c1 hne]
      by_cases c2 : c = i
      · subst c2
        rw [hsw_l]
        have := h.2 j (by omega) hn hpj h0
        rw [← hq] at this
        exact this
      · have c3 : c ≠ j := fun e => by subst e; omega
        rw [hsw_o F c2 c3]
        have := h.1 c h0 hc (by omega)
        rw [← hq] at this
        exact this
  · rw [hpj, hsw_l]
    have c1 : c ≠ i := by omega
    have c2 : c ≠ j := by omega
    rw [hsw_o F c1 c2]
    have := h.1 c h0 hc (by omega)
    rw [he] at this
    exact this
theorem HP.top {α : Type} {k : α → Int} {F : Nat → α} {n : Nat} (h : HP k F n) : ∀ i, i < n → k (F 0) ≤ k (F i) := by
  intro i
  induction i using Nat.strongRecOn with
  | ind i ih =>
    intro hi
    rcases Nat.eq_zero_or_pos i with c | c
    · subst c; exact Int.le_refl _
    · have h1 := ih ((i - 1) / 2) (by omega) (by omega)
      have h2 := h i c hi
      omega
theorem HP.pop {α : Type} {k : α → Int} {F : Nat → α} {n : Nat} (h : HP k F (n + 1)) : HD k (hsw F 0 n) n 0 := by
  refine ⟨fun c h0 hc hne => ?_, fun c h0 hc he h1 => by omega⟩
  rw [hsw_o F hne (by omega), hsw_o F (by omega) (by omega)]
  exact h c h0 (by omega)
theorem HP.rise {α : Type} {k : α → Int} {F : Nat → α} {n : Nat} (h : ∀ i j, i < j → j < n → k (F i) < k (F j)) : HP k F n := fun i h0 hi => by
  have := h ((i - 1) / 2) i (by omega) hi
  omega
structure HS {α : Type} (F : Nat → α) (n : Nat) (L : List α) : Prop where
  len : L.length = n
  mem : ∀ i, i < n → F i ∈ L
  hit : ∀ a ∈ L, ∃ i, i < n ∧ F i = a
theorem HS.sw {α : Type} {F : Nat → α} {n : Nat} {L : List α} (h : HS F n L) {i j : Nat} (hi : i < n) (hj : j < n) : HS (hsw F i j) n L := by
  refine ⟨h.len, fun t ht => ?_, fun a ha => ?_⟩
  · by_cases c1 : t = i
    · subst c1; rw [hsw_l]; exact h.mem j hj
    · by_cases c2 : t = j
      · subst c2; rw [hsw_r]; exact h.mem i hi
      · rw [hsw_o F c1 c2]; exact h.mem t ht
  · obtain ⟨t, ht, e⟩ := h.hit a ha
    by_cases c1 : t = i
    · subst c1; exact ⟨j, hj, by rw [hsw_r]; exact e⟩
    · by_cases c2 : t = j
      · subst c2; exact ⟨i, hi, by rw [hsw_l]; exact e⟩
      · exact ⟨t, ht, by rw [hsw_o F c1 c2]; exact e⟩
theorem HP.first {α : Type} {k : α → Int} {F : Nat → α} {n : Nat} {a : α} {L : List α} (h : HP k F n) (hs : HS F n (a :: L)) (hr : ∀ b ∈ L, k a < k b) : F 0 = a := by
  have hn : 0 < n := by have := hs.len; simp at this; omega
  obtain ⟨i, hi, e⟩ := hs.hit a (by simp)
  have h1 := h.top i hi
  rw [e] at h1
  rcases List.mem_cons.1 (hs.mem 0 hn) with c | c
  · exact c
  · have := hr _ c
    omega
theorem HS.pop {α : Type} {k : α → Int} {F : Nat → α} {n : Nat} {a : α} {L : List α} (hs : HS F (n + 1) (a :: L)) (h0 : F 0 = a) (hr : ∀ b ∈ L, k a < k b) (hd : ∀ i j, i < n + 1 → j < n + 1 → F i = F j → i = j) : HS (hsw F 0 n) n L := by
  have hl : L.length = n := by have := hs.len; simpa using this
  refine ⟨hl, fun t ht => ?_, fun b hb => ?_⟩
  · have key : ∀ u, u < n + 1 → u ≠ 0 → F u ∈ L := fun u hu hu0 => by
      rcases List.mem_cons.1 (hs.mem u hu) with c | c
      · exact absurd (hd u 0 hu (by omega) (c.trans h0.symm)) hu0
      · exact c
    by_cases c1 : t = 0
    · subst c1; rw [hsw_l]; exact key n (by omega) (by omega)
    · rw [hsw_o F c1 (by omega)]; exact key t (by omega) c1
  · obtain ⟨t, ht, e⟩ := hs.hit b (by simp [hb])
    have hne : t ≠ 0 := fun c => by
      subst c
      rw [h0] at e
      subst e
      have := hr _ hb
      omega
    by_cases c2 : t = n
    · subst c2; exact ⟨0, by omega, by rw [hsw_l]; exact e⟩
    · exact ⟨t, by omega, by rw [hsw_o F hne c2]; exact e⟩
theorem inj_sw {α : Type} {F : Nat → α} {n : Nat} (h : ∀ i j, i < n → j < n → F i = F j → i = j) {a b : Nat} (ha : a < n) (hb : b < n) : ∀ i j, i < n → j < n → hsw F a b i = hsw F a b j → i = j := by
  intro i j hi hj e
  by_cases i1 : i = a <;> by_cases j1 : j = a
  · omega
  · subst i1
    rw [hsw_l] at e
    by_cases j2 : j = b
    · subst j2; rw [hsw_r] at e; exact (h _ _ hj hi e).symm
    · rw [hsw_o F j1 j2] at e; exact absurd (h _ _ hb hj e).symm j2
  · subst j1
    rw [hsw_l] at e
    by_cases i2 : i = b
    · subst i2; rw [hsw_r] at e; exact (h _ _ hj hi e).symm ▸ rfl
    · rw [hsw_o F i1 i2] at e; exact absurd (h _ _ hi hb e) i2
  · by_cases i2 : i = b <;> by_cases j2 : j = b
    · omega
    · subst i2; rw [hsw_r, hsw_o F j1 j2] at e; exact absurd (h _ _ ha hj e).symm j1
    · subst j2; rw [hsw_r, hsw_o F i1 i2] at e; exact absurd (h _ _ hi ha e) i1
    · rw [hsw_o F i1 i2, hsw_o F j1 j2] at e; exact h _ _ hi hj e
end Go.Proofs.Ytgiicendejgklaa
