/- Texts joined: TeA LgE. -/
import Derived.Test.YtnimdnoemmodaaaZ13
import Derived.Test.YtnimdnoemmodaaaZ17
import Derived.Test.YtnimdnoemmodaaaZ05
/- The contracts of SameNodes and SameTree, of two trees that read alike; the document's free and rising. -/
namespace Go.Proofs.Ytnimdnoemmodaaa
open Go.RowKit Go.Maps
set_option maxRecDepth 100000 in
set_option maxHeartbeats 4000000 in
theorem sameNodes_eq {w : World} {v v' : Value} {T : List Nd} (h : Trd w v T) (h' : Trd w v' T) :
    Calls Try.prog 73 #[v, v'] w fun e w' => e = .returned (.bool true) ∧ Below w.heap.size w w' := by
  obtain ⟨a, c, rfl⟩ := h.slice
  obtain ⟨a', c', rfl⟩ := h'.slice
  obtain ⟨-, h2⟩ := h.at
  obtain ⟨-, h2'⟩ := h'.at
  have HC : Hid (∀ i, i < T.length → ∃ b o b' o' p m e ua ul uc ua' uc', a = some ⟨b, o, none⟩ ∧ a' = some ⟨b', o', none⟩ ∧ ∀ W, Below w.heap.size w W → (W.cell? ⟨b, o + i * 4, none⟩ = some (.int .i64 p) ∧ W.cell? ⟨b, o + i * 4 + 1, none⟩ = some (.int .i64 m) ∧ W.cell? ⟨b, o + i * 4 + 2, none⟩ = some (.int .i64 e) ∧ W.cell? ⟨b, o + i * 4 + 3, none⟩ = some (.slice ua ul uc)) ∧
      (W.cell? ⟨b', o' + i * 4, none⟩ = some (.int .i64 p) ∧ W.cell? ⟨b', o' + i * 4 + 1, none⟩ = some (.int .i64 m) ∧ W.cell? ⟨b', o' + i * 4 + 2, none⟩ = some (.int .i64 e) ∧ W.cell? ⟨b', o' + i * 4 + 3, none⟩ = some (.slice ua' ul uc')) ∧
      Calls Try.prog 78 #[.agg #[.int .i64 p, .int .i64 m, .int .i64 e, .slice ua ul uc], .agg #[.int .i64 p, .int .i64 m, .int .i64 e, .slice ua' ul uc']] W fun x w' => x = .returned (.bool true) ∧ Below W.heap.size W w') := fun i hi => by
    obtain ⟨b, o, e, h3⟩ := h2 (by omega)
    obtain ⟨b', o', e', h3'⟩ := h2' (by omega)
    obtain ⟨u, k1, k2⟩ := h3 w (Below.refl _ _) i hi
    obtain ⟨u', k1', k2'⟩ := h3' w (Below.refl _ _) i hi
    obtain ⟨ua, uc, rfl⟩ := nums_slice k2
    obtain ⟨ua', uc', rfl⟩ := nums_slice k2'
    have hB : b < w.heap.size := lt_of_cell k1.c3
    have hB' : b' < w.heap.size := lt_of_cell k1'.c3
    exact ⟨b, o, b', o', (ndAt T i).pub, (ndAt T i).mem, (ndAt T i).ep, ua, (ndAt T i).un.length, uc, ua', uc', e, e', fun W hW => ⟨⟨(k1.bw hB hW).c0, (k1.bw hB hW).c1, (k1.bw hB hW).c2, (k1.bw hB hW).c3⟩, ⟨(k1'.bw hB' hW).c0, (k1'.bw hB' hW).c1, (k1'.bw hB' hW).c2, (k1'.bw hB' hW).c3⟩, sameNode_eq (k2.bw hW) (k2'.bw hW)⟩⟩
  have hlI : (T.length : Int) ≤ 140737488355328 := by have := h.len; omega
  clear h h' h2 h2'
  generalize T.length = N at *
  go_enter Try.func73, Try.ntmps73
  go_wp2_with fail
  go_loopw [13] (fun iv wr => ∃ (i : Nat), iv = .int .i64 (i : Int) ∧ i ≤ N ∧ Below w.heap.size w wr) (fun iv _ => (N - (intOf iv)).toNat)
  case atStart => exact ⟨0, rfl, by omega, Below.refl _ _⟩
  case round =>
    obtain ⟨i, rfl, hi, hbel⟩ := hrel
    by_cases hin : i < N
    · obtain ⟨b, o, b', o', p, m, e, ua, ul, uc, ua', uc', rfl, rfl, hc⟩ := unhide HC i hin
      have q1 : (i : Int) < (N : Int) := by omega
      have q0 : (0 : Int) ≤ (i : Int) := by omega
      obtain ⟨x0, y0, -⟩ := hc _ hbel
      obtain ⟨x1, y1, K⟩ := hc _ hbel.drew
      have HC2 := hide hc
      have HK := hide K
      obtain ⟨c0, c1, c2, c3⟩ := x0
      obtain ⟨d0, d1, d2, d3⟩ := y0
      obtain ⟨e0, e1, e2, e3⟩ := x1
      obtain ⟨f0, f1, f2, f3⟩ := y1
      clear hc K
      go_wp2_with fail
      first
      | go_region_held3 (fun w' : World => w'.cell? ⟨b, o + i * 4, none⟩ = some (.int .i64 p) ∧ w'.cell? ⟨b, o + i * 4 + 1, none⟩ = some (.int .i64 m) ∧ w'.cell? ⟨b, o + i * 4 + 2, none⟩ = some (.int .i64 e) ∧ w'.cell? ⟨b, o + i * 4 + 3, none⟩ = some (.slice ua ul uc) ∧
          w'.cell? ⟨b', o' + i * 4, none⟩ = some (.int .i64 p) ∧ w'.cell? ⟨b', o' + i * 4 + 1, none⟩ = some (.int .i64 m) ∧ w'.cell? ⟨b', o' + i * 4 + 2, none⟩ = some (.int .i64 e) ∧ w'.cell? ⟨b', o' + i * 4 + 3, none⟩ = some (.slice ua' ul uc'))
          (first | with_reducible exact ⟨c0, c1, c2, c3, d0, d1, d2, d3⟩ | with_reducible exact ⟨e0, e1, e2, e3, f0, f1, f2, f3⟩ | with_reducible exact ⟨g0, g1, g2, g3, h0, h1, h2, h3⟩) (first
          | (go_at_call 78; refine (unhide HK).mono ?_; rintro x w5 ⟨rfl, E5⟩; have b5 := bw_tr hbel.drew E5; obtain ⟨⟨g0, g1, g2, g3⟩, ⟨h0, h1, h2, h3⟩, -⟩ := unhide HC2 w5 b5) | fail)
      | fail
      all_goals
        clear E5 g0 g1 g2 g3 h0 h1 h2 h3
        go_wp2_with fail
        go_roundw
        case rel => exact ⟨i + 1, by go_num, by omega, b5⟩
        case measure => simp [intOf]; omega
    · obtain rfl : i = N := by omega
      go_wp2_with fail
      go_ret
      exact ⟨rfl, hbel⟩
set_option maxHeartbeats 1000000 in
theorem sameTree_eq {w : World} {v v' : Value} {T : List Nd} (h : Trd w v T) (h' : Trd w v' T) :
    Calls Try.prog 60 #[.agg #[v], .agg #[v']] w fun e w' => e = .returned (.bool true) ∧ Below w.heap.size w w' := by
  obtain ⟨a, c, rfl⟩ := h.slice
  obtain ⟨a', c', rfl⟩ := h'.slice
  obtain ⟨W0, hW0⟩ : ∃ W0, W0 = (w.alloc (.cells #[.slice a T.length c] 43)).alloc (.cells #[.slice a' T.length c'] 43) := ⟨_, rfl⟩
  have hb0 : Below w.heap.size w W0 := by rw [hW0]; exact (bwA _ _).alloc (by simp) _
  have K := hide (sameNodes_eq (h.bw hb0) (h'.bw hb0))
  have HW : Hid (W0 = (w.alloc (.cells #[.slice a T.length c] 43)).alloc (.cells #[.slice a' T.length c'] 43)) := hW0
  clear hW0 h h'
  generalize T.length = N at *
  go_enter Try.func60, Try.ntmps60
  go_wp2_with fail
  rw [← unhide HW]
  refine (unhide K).mono ?_
  rintro x w1 ⟨rfl, b1⟩
  go_wp2
  go_ret
  exact ⟨rfl, bw_tr hb0 b1⟩
end Go.Proofs.Ytnimdnoemmodaaa

/- SameCommit, SameCommits, SameLog, SameLogs of equal ones. -/
namespace Go.Proofs.Ytnimdnoemmodaaa
open Go.RowKit Go.Maps
set_option maxRecDepth 100000 in
set_option maxHeartbeats 8000000 in
theorem samecm_any {w : World} {c : Cm} {x y : Cv} (hx : CmR w c x) (hy : CmR w c y) :
    Calls Try.prog 43 #[cmV c x, cmV c y] w fun e w' => e = .returned (.bool true) ∧ Below w.heap.size w w' := by
  obtain ⟨w0, hw0⟩ : ∃ w0, w0 = (w.alloc (.cells (cmC c x).toArray 45)).alloc (.cells (cmC c y).toArray 45) := ⟨_, rfl⟩
  have bl : Below w.heap.size w w0 := by rw [hw0]; exact bw_tr (bwA _ _) (bwA _ _)
  have kx : w0.heap[w.heap.size]? = some (.cells (cmC c x).toArray 45 (0, 0)) := by
    have h1 := heap_alloc_new w (.cells (cmC c x).toArray 45)
    rw [hw0, Below.heap_alloc _ _ _ (by simp)]; exact h1
  have ky : w0.heap[w.heap.size + 1]? = some (.cells (cmC c y).toArray 45 (0, 0)) := by
    have h2 := heap_alloc_new (w.alloc (.cells (cmC c x).toArray 45)) (.cells (cmC c y).toArray 45)
    have e : (w.alloc (.cells (cmC c x).toArray 45)).heap.size = w.heap.size + 1 := by simp
    rw [e] at h2
    rw [hw0]; exact h2
  have KT : Hid (∀ W, Below w0.heap.size w0 W → Calls Try.prog 60 #[.agg #[x.nv], .agg #[y.nv]] W fun e w' => e = .returned (.bool true) ∧ Below W.heap.size W w') := fun W hW => sameTree_eq (hx.next.bw (bw_tr bl hW)) (hy.next.bw (bw_tr bl hW))
  have KA : Hid (∀ W, Below w0.heap.size w0 W → Calls Try.prog 61 #[x.av, y.av] W fun e w' => e = .returned (.bool true) ∧ Below W.heap.size W w') := fun W hW => sameAdds_any _ _ _ W (hx.adds.bw (bw_tr bl hW)) (hy.adds.bw (bw_tr bl hW))
  have KR : Hid (∀ W, Below w0.heap.size w0 W → Calls Try.prog 62 #[x.rv, y.rv] W fun e w' => e = .returned (.bool true) ∧ Below W.heap.size W w') := fun W hW => by
    have := same_any _ _ _ _ W (hx.rem.bw (bw_tr bl hW)) (hy.rem.bw (bw_tr bl hW))
    rw [decide_eq_true rfl] at this
    exact this
  have KQ : Hid (∀ W, Below w0.heap.size w0 W → Calls Try.prog 63 #[x.qv, y.qv] W fun e w' => e = .returned (.bool true) ∧ Below W.heap.size W w') := fun W hW => sameSeals_any _ _ _ W (hx.seals.bw (bw_tr bl hW)) (hy.seals.bw (bw_tr bl hW))
  have KJ : Hid (∀ W, Below w0.heap.size w0 W → Calls Try.prog 64 #[x.jv, y.jv] W fun e w' => e = .returned (.bool true) ∧ Below W.heap.size W w') := fun W hW => sameJoins_any _ _ _ W (hx.joins.bw (bw_tr bl hW)) (hy.joins.bw (bw_tr bl hW))
  have s1 := hx.adds.slice
  have s2 := nums_slice hx.rem
  have s3 := hx.seals.slice
  have s4 := hx.joins.slice
  have s5 := hx.next.slice
  have t1 := hy.adds.slice
  have t2 := nums_slice hy.rem
  have t3 := hy.seals.slice
  have t4 := hy.joins.slice
  have t5 := hy.next.slice
  obtain ⟨g0, g1, g2, g3, g4, g5, adds, rem, seals, joins, g10, g11, next, g13, g14⟩ := c
  obtain ⟨av, rv, qv, jv, nv⟩ := x
  obtain ⟨av', rv', qv', jv', nv'⟩ := y
  simp only at KT KA KR KQ KJ s1 s2 s3 s4 s5 t1 t2 t3 t4 t5
  have YY : Hid (∀ W, Below w0.heap.size w0 W → ((W.cell? ⟨w.heap.size, 12, none⟩ = some nv ∧ W.cell? ⟨w.heap.size, 6, none⟩ = some av ∧ W.cell? ⟨w.heap.size, 7, none⟩ = some rv ∧ W.cell? ⟨w.heap.size, 8, none⟩ = some qv ∧ W.cell? ⟨w.heap.size, 9, none⟩ = some jv) ∧ (W.cell? ⟨w.heap.size + 1, 12, none⟩ = some nv' ∧ W.cell? ⟨w.heap.size + 1, 6, none⟩ = some av' ∧ W.cell? ⟨w.heap.size + 1, 7, none⟩ = some rv' ∧ W.cell? ⟨w.heap.size + 1, 8, none⟩ = some qv' ∧ W.cell? ⟨w.heap.size + 1, 9, none⟩ = some jv'))) := fun W hW => by
    have k1 := kept_b kx (lt_of_blk kx) hW
    have k2 := kept_b ky (lt_of_blk ky) hW
    exact ⟨⟨blk_c k1 rfl, blk_c k1 rfl, blk_c k1 rfl, blk_c k1 rfl, blk_c k1 rfl⟩, ⟨blk_c k2 rfl, blk_c k2 rfl, blk_c k2 rfl, blk_c k2 rfl, blk_c k2 rfl⟩⟩
  obtain ⟨⟨c12, c6, c7, c8, c9⟩, ⟨d12, d6, d7, d8, d9⟩⟩ := unhide YY w0 (Below.refl _ _)
  have c0 : w0.cell? ⟨w.heap.size, 0, none⟩ = some (.int .i64 g0) := blk_c kx rfl
  have c1 : w0.cell? ⟨w.heap.size, 1, none⟩ = some (.int .i64 g1) := blk_c kx rfl
  have c2 : w0.cell? ⟨w.heap.size, 2, none⟩ = some (.int .i64 g2) := blk_c kx rfl
  have c3 : w0.cell? ⟨w.heap.size, 3, none⟩ = some (.int .i64 g3) := blk_c kx rfl
  have c4 : w0.cell? ⟨w.heap.size, 4, none⟩ = some (.int .i64 g4) := blk_c kx rfl
  have c5 : w0.cell? ⟨w.heap.size, 5, none⟩ = some (.bool g5) := blk_c kx rfl
  have c10 : w0.cell? ⟨w.heap.size, 10, none⟩ = some (.int .i64 g10) := blk_c kx rfl
  have c11 : w0.cell? ⟨w.heap.size, 11, none⟩ = some (.int .i64 g11) := blk_c kx rfl
  have c13 : w0.cell? ⟨w.heap.size, 13, none⟩ = some (.int .i64 g13) := blk_c kx rfl
  have c14 : w0.cell? ⟨w.heap.size, 14, none⟩ = some (.int .i64 g14) := blk_c kx rfl
  have d0 : w0.cell? ⟨w.heap.size + 1, 0, none⟩ = some (.int .i64 g0) := blk_c ky rfl
  have d1 : w0.cell? ⟨w.heap.size + 1, 1, none⟩ = some (.int .i64 g1) := blk_c ky rfl
  have d2 : w0.cell? ⟨w.heap.size + 1, 2, none⟩ = some (.int .i64 g2) := blk_c ky rfl
  have d3 : w0.cell? ⟨w.heap.size + 1, 3, none⟩ = some (.int .i64 g3) := blk_c ky rfl
  have d4 : w0.cell? ⟨w.heap.size + 1, 4, none⟩ = some (.int .i64 g4) := blk_c ky rfl
  have d5 : w0.cell? ⟨w.heap.size + 1, 5, none⟩ = some (.bool g5) := blk_c ky rfl
  have d10 : w0.cell? ⟨w.heap.size + 1, 10, none⟩ = some (.int .i64 g10) := blk_c ky rfl
  have d11 : w0.cell? ⟨w.heap.size + 1, 11, none⟩ = some (.int .i64 g11) := blk_c ky rfl
  have d13 : w0.cell? ⟨w.heap.size + 1, 13, none⟩ = some (.int .i64 g13) := blk_c ky rfl
  have d14 : w0.cell? ⟨w.heap.size + 1, 14, none⟩ = some (.int .i64 g14) := blk_c ky rfl
  have HW : Hid (w0 = (w.alloc (.cells #[.int .i64 g0, .int .i64 g1, .int .i64 g2, .int .i64 g3, .int .i64 g4, .bool g5, av, rv, qv, jv, .int .i64 g10, .int .i64 g11, nv, .int .i64 g13, .int .i64 g14] 45)).alloc (.cells #[.int .i64 g0, .int .i64 g1, .int .i64 g2, .int .i64 g3, .int .i64 g4, .bool g5, av', rv', qv', jv', .int .i64 g10, .int .i64 g11, nv', .int .i64 g13, .int .i64 g14] 45)) := hw0
  obtain ⟨a1, k1, rfl⟩ := s1
  obtain ⟨a2, k2, rfl⟩ := s2
  obtain ⟨a3, k3, rfl⟩ := s3
  obtain ⟨a4, k4, rfl⟩ := s4
  obtain ⟨a5, k5, rfl⟩ := s5
  obtain ⟨b1, l1, rfl⟩ := t1
  obtain ⟨b2, l2, rfl⟩ := t2
  obtain ⟨b3, l3, rfl⟩ := t3
  obtain ⟨b4, l4, rfl⟩ := t4
  obtain ⟨b5, l5, rfl⟩ := t5
  have BL := hide bl
  unfold cmV cmC
  clear hx hy hw0 bl kx ky
  generalize adds.length = A at *
  generalize rem.length = R at *
  generalize seals.length = Q at *
  generalize joins.length = J at *
  generalize next.length = N at *
  go_enter Try.func43, Try.ntmps43
  go_upto_region 1 with fail
  rw [← unhide HW]
  clear HW
  go_wp2_with fail
  refine (unhide KT w0 (Below.refl _ _)).mono ?_
  rintro e w1 ⟨rfl, b1⟩
  obtain ⟨⟨-, c6, c7, c8, c9⟩, ⟨-, d6, d7, d8, d9⟩⟩ := unhide YY w1 b1
  have B1 := hide b1
  clear b1 KT c0 c1 c2 c3 c4 c5 c10 c11 c12 c13 c14 d0 d1 d2 d3 d4 d5 d10 d11 d12 d13 d14
  go_wp2_with fail
  refine (unhide KA w1 (unhide B1)).mono ?_
  rintro e w2 ⟨rfl, b2⟩
  have b2' := bw_tr (unhide B1) b2
  obtain ⟨⟨-, -, c7, c8, c9⟩, ⟨-, -, d7, d8, d9⟩⟩ := unhide YY w2 b2'
  have B2 := hide b2'
  clear b2 b2' KA B1 c6 d6
  go_wp2_with fail
  refine (unhide KR w2 (unhide B2)).mono ?_
  rintro e w3 ⟨rfl, b3⟩
  have b3' := bw_tr (unhide B2) b3
  obtain ⟨⟨-, -, -, c8, c9⟩, ⟨-, -, -, d8, d9⟩⟩ := unhide YY w3 b3'
  have B3 := hide b3'
  clear b3 b3' KR B2 c7 d7
  go_wp2_with fail
  refine (unhide KQ w3 (unhide B3)).mono ?_
  rintro e w4 ⟨rfl, b4⟩
  have b4' := bw_tr (unhide B3) b4
  obtain ⟨⟨-, -, -, -, c9⟩, ⟨-, -, -, -, d9⟩⟩ := unhide YY w4 b4'
  have B4 := hide b4'
  clear b4 b4' KQ B3 c8 d8
  go_wp2_with fail
  refine (unhide KJ w4 (unhide B4)).mono ?_
  rintro e w5 ⟨rfl, b5⟩
  have B5 := hide (bw_tr (unhide BL) (bw_tr (unhide B4) b5))
  clear b5 KJ B4 c9 d9 BL
  go_wp2
  go_ret
  exact ⟨rfl, unhide B5⟩
end Go.Proofs.Ytnimdnoemmodaaa
