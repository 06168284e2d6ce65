/- Texts joined: PoS QuPt. -/
import Derived.Test.YtgiicendejgklaaZ15
import Derived.Test.YtgiicendejgklaaZ17
import Derived.Deep.MidRow
import Derived.Test.YtgiicendejgklaaZ13
/- SameFace, SameMail, SameMails, SameBox of equal ones. -/
namespace Go.Proofs.Ytgiicendejgklaa
open Go.RowKit Go.Maps
end Go.Proofs.Ytgiicendejgklaa

/- How great a mail is: MailSize (out of PoT). mkQuLs.py writes it. -/
namespace Go.Proofs.Ytgiicendejgklaa
open Go.RowKit Go.Maps
def mlN (m : Ml) : Nat := cmN m.cm + (m.tr.length + usum m.tr)
set_option maxRecDepth 100000 in
set_option maxHeartbeats 4000000 in
theorem mlsize_any {w : World} {m : Ml} {x : Mx} (h : MlR w m x) :
    Calls Try.prog 21 #[.agg (mlC m x).toArray] w fun e w' => ∃ n : Nat, e = .returned (.int .i64 (n : Int)) ∧ n ≤ 3377699720527872 ∧ (n ≤ 262144 → n = mlN m) ∧ Below w.heap.size w w' := by
  obtain ⟨w0, hw0⟩ : ∃ w0, w0 = w.alloc (.cells (mlC m x).toArray 41) := ⟨_, rfl⟩
  have bl : Below w.heap.size w w0 := by rw [hw0]; exact bwA _ _
  have kk : w0.heap[w.heap.size]? = some (.cells (mlC m x).toArray 41 (0, 0)) := by rw [hw0]; exact heap_alloc_new _ _
  have bd : Below w0.heap.size w0 w0.drew := (Below.refl _ _).drew
  have KC : Calls Try.prog 20 #[.agg (cmC m.cm x.cx).toArray] w0.drew fun e w' => ∃ n : Nat, e = .returned (.int .i64 (n : Int)) ∧ n ≤ 2251799813685248 ∧ (n ≤ 262144 → n = cmN m.cm) ∧ Below w0.heap.size w0 w' := by
    refine Calls.mono (cmsize_any (h.c.bw (bw_tr bl bd))) ?_
    rintro e w' ⟨n, q1, q2, q3, q4⟩
    exact ⟨n, q1, q2, q3, bw_tr bd q4⟩
  have KT : Hid (∀ W, Below w0.heap.size w0 W → Calls Try.prog 33 #[.agg #[x.tv]] W fun e w' => ∃ n : Nat, e = .returned (.int .i64 (n : Int)) ∧ n ≤ 1125899906842624 ∧ (n ≤ 262144 → n = m.tr.length + usum m.tr) ∧ Below w0.heap.size w0 w') := fun W hW => by
    refine Calls.mono (treeSize2_any (h.t.bw (bw_tr bl hW))) ?_
    rintro e w' ⟨n, q1, q2, q3, q4⟩
    exact ⟨n, q1, q2, q3, bw_tr hW q4⟩
  obtain ⟨a1, k1, e1⟩ := h.c.adds.slice
  obtain ⟨a2, k2, e2⟩ := nums_slice h.c.rem
  obtain ⟨a3, k3, e3⟩ := h.c.seals.slice
  obtain ⟨a4, k4, e4⟩ := h.c.joins.slice
  obtain ⟨a5, k5, e5⟩ := h.c.next.slice
  obtain ⟨a6, k6, e6⟩ := h.t.slice
  have HN : Hid (mlN m = cmN m.cm + (m.tr.length + usum m.tr)) := rfl
  obtain ⟨CX, hCX⟩ : ∃ z, z = mlC m x := ⟨_, rfl⟩
  obtain ⟨MN, hMN⟩ : ∃ z, z = mlN m := ⟨_, rfl⟩
  obtain ⟨CN, hCN⟩ : ∃ z, z = cmN m.cm := ⟨_, rfl⟩
  obtain ⟨TN, hTN⟩ : ∃ z, z = m.tr.length + usum m.tr := ⟨_, rfl⟩
  rw [← hTN] at KT HN
  rw [← hCN] at KC HN
  rw [← hMN] at HN ⊢
  have HW := hide hw0
  rw [← hCX] at HW ⊢
  clear h hw0 hCX hMN hCN hTN
  obtain ⟨g0, ⟨g1, g2, g3, g4, g5, g6, adds, rem, seals, joins, g11, g12, next, g14, g15⟩, g16, g17, g18, g19, g20, g21, g22, tr, g24, g25, g26, g27, g28, g29⟩ := m
  obtain ⟨⟨av, rv, qv, jv, nv⟩, us, tv, ts⟩ := x
  unfold cmC at KC
  simp only at KC KT e1 e2 e3 e4 e5 e6 kk
  obtain ⟨LN, hLN⟩ : ∃ z, z = next.length := ⟨_, rfl⟩
  obtain ⟨LA, hLA⟩ : ∃ z, z = adds.length := ⟨_, rfl⟩
  obtain ⟨LR, hLR⟩ : ∃ z, z = rem.length := ⟨_, rfl⟩
  obtain ⟨LQ, hLQ⟩ : ∃ z, z = seals.length := ⟨_, rfl⟩
  obtain ⟨LJ, hLJ⟩ : ∃ z, z = joins.length := ⟨_, rfl⟩
  obtain ⟨LT, hLT⟩ : ∃ z, z = tr.length := ⟨_, rfl⟩
  rw [← hLA] at e1
  rw [← hLR] at e2
  rw [← hLQ] at e3
  rw [← hLJ] at e4
  rw [← hLN] at e5
  rw [← hLT] at e6
  clear hLN hLA hLR hLQ hLJ hLT
  subst e1 e2 e3 e4 e5 e6
  have KC : Hid (Calls Try.prog 20 #[.agg #[.int .i64 g1, .int .i64 g2, .int .i64 g3, .int .i64 g4, .int .i64 g5, .bool g6, .slice a1 LA k1, .slice a2 LR k2, .slice a3 LQ k3, .slice a4 LJ k4, .int .i64 g11, .int .i64 g12, .slice a5 LN k5, .int .i64 g14, .int .i64 g15]] w0.drew fun e w' => ∃ n : Nat, e = .returned (.int .i64 (n : Int)) ∧ n ≤ 2251799813685248 ∧ (n ≤ 262144 → n = CN) ∧ Below w0.heap.size w0 w') := KC
  have HS : Hid (∀ W, Below w0.heap.size w0 W → (W.cell? ⟨w.heap.size, 1, none⟩ = some (.int .i64 g1) ∧ W.cell? ⟨w.heap.size, 2, none⟩ = some (.int .i64 g2) ∧ W.cell? ⟨w.heap.size, 3, none⟩ = some (.int .i64 g3) ∧ W.cell? ⟨w.heap.size, 4, none⟩ = some (.int .i64 g4) ∧ W.cell? ⟨w.heap.size, 5, none⟩ = some (.int .i64 g5) ∧ W.cell? ⟨w.heap.size, 6, none⟩ = some (.bool g6) ∧ W.cell? ⟨w.heap.size, 7, none⟩ = some (.slice a1 LA k1) ∧ W.cell? ⟨w.heap.size, 8, none⟩ = some (.slice a2 LR k2) ∧ W.cell? ⟨w.heap.size, 9, none⟩ = some (.slice a3 LQ k3) ∧ W.cell? ⟨w.heap.size, 10, none⟩ = some (.slice a4 LJ k4) ∧ W.cell? ⟨w.heap.size, 11, none⟩ = some (.int .i64 g11) ∧ W.cell? ⟨w.heap.size, 12, none⟩ = some (.int .i64 g12) ∧ W.cell? ⟨w.heap.size, 13, none⟩ = some (.slice a5 LN k5) ∧ W.cell? ⟨w.heap.size, 14, none⟩ = some (.int .i64 g14) ∧ W.cell? ⟨w.heap.size, 15, none⟩ = some (.int .i64 g15) ∧ W.cell? ⟨w.heap.size, 23, none⟩ = some (.slice a6 LT k6)) ∧ Below w.heap.size w W) := fun W hW => by
    have k := kept_b kk (lt_of_blk kk) hW
    exact ⟨⟨blk_c k rfl, blk_c k rfl, blk_c k rfl, blk_c k rfl, blk_c k rfl, blk_c k rfl, blk_c k rfl, blk_c k rfl, blk_c k rfl, blk_c k rfl, blk_c k rfl, blk_c k rfl, blk_c k rfl, blk_c k rfl, blk_c k rfl, blk_c k rfl⟩, bw_tr bl hW⟩
  have S0 := (unhide HS w0 (Below.refl _ _)).1
  have S00 := (unhide HS w0.drew bd).1
  clear bl kk bd
  go_enter Try.func21, Try.ntmps21
  go_upto_region 1 with fail
  rw [← unhide HW]
  clear HW
  go_region_held3 (fun w' : World => w'.cell? ⟨w.heap.size, 1, none⟩ = some (.int .i64 g1) ∧ w'.cell? ⟨w.heap.size, 2, none⟩ = some (.int .i64 g2) ∧ w'.cell? ⟨w.heap.size, 3, none⟩ = some (.int .i64 g3) ∧ w'.cell? ⟨w.heap.size, 4, none⟩ = some (.int .i64 g4) ∧ w'.cell? ⟨w.heap.size, 5, none⟩ = some (.int .i64 g5) ∧ w'.cell? ⟨w.heap.size, 6, none⟩ = some (.bool g6) ∧ w'.cell? ⟨w.heap.size, 7, none⟩ = some (.slice a1 LA k1) ∧ w'.cell? ⟨w.heap.size, 8, none⟩ = some (.slice a2 LR k2) ∧ w'.cell? ⟨w.heap.size, 9, none⟩ = some (.slice a3 LQ k3) ∧ w'.cell? ⟨w.heap.size, 10, none⟩ = some (.slice a4 LJ k4) ∧ w'.cell? ⟨w.heap.size, 11, none⟩ = some (.int .i64 g11) ∧ w'.cell? ⟨w.heap.size, 12, none⟩ = some (.int .i64 g12) ∧ w'.cell? ⟨w.heap.size, 13, none⟩ = some (.slice a5 LN k5) ∧ w'.cell? ⟨w.heap.size, 14, none⟩ = some (.int .i64 g14) ∧ w'.cell? ⟨w.heap.size, 15, none⟩ = some (.int .i64 g15) ∧ w'.cell? ⟨w.heap.size, 23, none⟩ = some (.slice a6 LT k6)) (first | with_reducible exact S0 | with_reducible exact S00 | with_reducible exact S1 | with_reducible exact S2) (first
    | (go_at_call 20; refine (unhide KC).mono ?_; rintro e z1 ⟨n, rfl, hn1, hn2, b1⟩; obtain ⟨S1, B1⟩ := unhide HS z1 b1; have K2 := hide (unhide KT z1 b1))
    | (go_at_call 33; refine (unhide K2).mono ?_; rintro e z2 ⟨n2, rfl, hm1, hm2, b2⟩; obtain ⟨S2, B2⟩ := unhide HS z2 b2; have hv : IntKind.i64.wrap ((n : Int) + (n2 : Int)) = ((n + n2 : Nat) : Int) := (by rw [wrap_id (by omega)]; omega)))
  all_goals
    go_wp2_with fail
    go_ret
    refine ⟨n + n2, ?_, by omega, fun hq => ?_, B2⟩
    · first | rfl | (simp [hv])
    · have := hn2 (by omega)
      have := hm2 (by omega)
      have := unhide HN
      omega
end Go.Proofs.Ytgiicendejgklaa
