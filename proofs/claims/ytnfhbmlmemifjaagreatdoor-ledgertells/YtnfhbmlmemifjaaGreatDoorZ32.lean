/- Texts joined: LgRe LgRf. -/
import Derived.Test.YtnfhbmlmemifjaaGreatDoorZ31
import Derived.Test.YtnfhbmlmemifjaaGreatDoorZ17
/- The document's Get of logs. -/
namespace Go.Proofs.YtnfhbmlmemifjaaGreatDoor
open Go.RowKit Go.Maps
set_option maxRecDepth 100000 in
set_option maxHeartbeats 8000000 in
theorem rget_of {u w : World} {v : Value} {l : List Lg} (h0 : Lgs u v l) (hb : Below u.heap.size u w) (g e : Int) :
    Calls Tryz.prog 11 #[v, .int .i64 g, .int .i64 e] w fun r w' => ∃ x, r = .returned (.tuple #[cmV ((getL l g e).getD cm00) x, .bool (getL l g e).isSome]) ∧ CmR u ((getL l g e).getD cm00) x ∧ Below w.heap.size w w' := by
  have h := h0.bw hb
  obtain ⟨w0, hw0⟩ : ∃ w0, w0 = w.alloc (.cells cm0 34) := ⟨_, rfl⟩
  have bl : Below w.heap.size w w0 := by rw [hw0]; exact bwA _ _
  have kk : w0.heap[w.heap.size]? = some (.cells cm0 34 (0, 0)) := by rw [hw0]; exact heap_alloc_new _ _
  have KL := hide (rlen_any (h.bw bl) g)
  have KP : Hid (∀ W, Below w.heap.size w W → Calls Tryz.prog 41 #[v, .int .i64 g] W fun e w' => e = .returned (.int .i64 (plF l g)) ∧ Below W.heap.size W w') := fun W hW => rplace_any (h.bw hW) g
  obtain ⟨a, cap, rfl⟩ := h0.slice
  have hl := h.len
  obtain ⟨N, hN⟩ : ∃ N, N = l.length := ⟨_, rfl⟩
  rw [← hN] at KL KP h h0 hl ⊢
  have hNI : (N : Int) ≤ 140737488355328 := by omega
  have hLb : lenL l g ≤ 140737488355328 := by
    unfold lenL
    split
    · rcases plF_cases l g with ⟨-, e2⟩ | ⟨i, p, -, e2, e3⟩
      · rw [e2]; simp
      · rw [e3]
        obtain ⟨gb, o, -, cv, hcv, -, -⟩ := h.get e2
        exact hcv.len
    · omega
  have HW : Hid (w0 = w.alloc (.cells #[.int .i64 0, .int .i64 0, .int .i64 0, .int .i64 0, .int .i64 0, .bool false, .slice none 0 0, .slice none 0 0, .slice none 0 0, .slice none 0 0, .int .i64 0, .int .i64 0, .slice none 0 0, .int .i64 0, .int .i64 0] 34)) := hw0
  have HK := hide (And.intro kk bl)
  by_cases he : 0 ≤ e ∧ e < (lenL l g : Int)
  · obtain ⟨i, p, e1, e2, e3⟩ : ∃ (i : Nat) (p : Lg), plF l g = (i : Int) ∧ l[i]? = some p ∧ fndL l g = some p.2 := by
      rcases plF_cases l g with ⟨-, e2⟩ | q
      · exfalso
        have : lenL l g = 0 := by unfold lenL; rw [e2]; simp
        omega
      · exact q
    have hlen : lenL l g = p.2.length := by
      have : chkB l = true := by
        cases hc : chkB l with
        | true => rfl
        | false => exfalso; have : lenL l g = 0 := by { unfold lenL; rw [hc]; rfl }; omega
      unfold lenL; rw [if_pos this, e3]; rfl
    obtain ⟨k, hk⟩ : ∃ k : Nat, e = (k : Int) := ⟨e.toNat, by omega⟩
    subst hk
    obtain ⟨c, hc⟩ : ∃ c, p.2[k]? = some c := ⟨_, List.getElem?_eq_getElem (by omega)⟩
    have hget : getL l g (k : Int) = some c := by
      unfold getL
      rw [if_pos he, e3]
      simpa using hc
    rw [hget]
    simp only [Option.getD_some, Option.isSome_some]
    rw [hlen] at KL he
    rw [e1] at KP
    obtain ⟨gb, o, ea, cv, hcv, d0, d1⟩ := h0.get e2
    subst ea
    obtain ⟨a0, c0, hcv2⟩ := hcv.slice
    subst hcv2
    obtain ⟨gb', o', ea, x, hx, hcc⟩ := hcv.get hc
    subst ea
    obtain ⟨M, hM⟩ : ∃ z, z = p.2.length := ⟨_, rfl⟩
    have hMl := hcv.len
    rw [← hM] at KL he d1 hMl
    have hMI : (M : Int) ≤ 140737488355328 := by omega
    have hi : i < N := by rw [hN]; exact (List.getElem?_eq_some_iff.1 e2).1
    have i1 : (i : Int) < (N : Int) := by omega
    have i0 : (0 : Int) ≤ (i : Int) := by omega
    have q1 : (k : Int) < (M : Int) := he.2
    have q2 : ¬ (M : Int) ≤ (k : Int) := by omega
    have q3 : ¬ (k : Int) < 0 := by omega
    have q4 : ¬ M ≤ k := by omega
    have HC : Hid (∀ W, Below w.heap.size w W → W.cell? ⟨gb, o + i * 2 + 1, none⟩ = some (.slice (some ⟨gb', o', none⟩) M c0)) := fun W hW => by rw [(bw_tr hb hW).cell (lt_of_cell d1)]; exact d1
    have HD : Hid (∀ W, Below w.heap.size w W → ∀ j z, (cmC c x)[j]? = some z → W.cell? ⟨gb', o' + k * 15 + j, none⟩ = some z) := fun W hW j z hj => by
      rw [(bw_tr hb hW).cell (World.block_lt_of_cell? _ _ (hcc j z hj))]; exact hcc j z hj
    obtain ⟨a1, k1, x1⟩ := hx.adds.slice
    obtain ⟨a2, k2, x2⟩ := nums_slice hx.rem
    obtain ⟨a3, k3, x3⟩ := hx.seals.slice
    obtain ⟨a4, k4, x4⟩ := hx.joins.slice
    obtain ⟨a5, k5, x5⟩ := hx.next.slice
    have HX := hide hx
    clear h h0 hb hN hl hLb hw0 bl kk e1 e2 e3 hlen hc hget d0 d1 hcc hM hMl hcv he hx
    obtain ⟨g0, g1, g2, g3, g4, g5, adds, rem, seals, joins, g10, g11, next, g13, g14⟩ := c
    obtain ⟨av, rv, qv, jv, nv⟩ := x
    simp only at x1 x2 x3 x4 x5
    subst x1 x2 x3 x4 x5
    have HD2 : Hid (∀ W, Below w.heap.size w W → (W.cell? ⟨gb', o' + k * 15, none⟩ = some (.int .i64 g0) ∧ W.cell? ⟨gb', o' + k * 15 + 1, none⟩ = some (.int .i64 g1) ∧ W.cell? ⟨gb', o' + k * 15 + 2, none⟩ = some (.int .i64 g2) ∧ W.cell? ⟨gb', o' + k * 15 + 3, none⟩ = some (.int .i64 g3) ∧ W.cell? ⟨gb', o' + k * 15 + 4, none⟩ = some (.int .i64 g4) ∧ W.cell? ⟨gb', o' + k * 15 + 5, none⟩ = some (.bool g5) ∧ W.cell? ⟨gb', o' + k * 15 + 6, none⟩ = some (.slice a1 adds.length k1) ∧ W.cell? ⟨gb', o' + k * 15 + 7, none⟩ = some (.slice a2 rem.length k2) ∧ W.cell? ⟨gb', o' + k * 15 + 8, none⟩ = some (.slice a3 seals.length k3) ∧ W.cell? ⟨gb', o' + k * 15 + 9, none⟩ = some (.slice a4 joins.length k4) ∧ W.cell? ⟨gb', o' + k * 15 + 10, none⟩ = some (.int .i64 g10) ∧ W.cell? ⟨gb', o' + k * 15 + 11, none⟩ = some (.int .i64 g11) ∧ W.cell? ⟨gb', o' + k * 15 + 12, none⟩ = some (.slice a5 next.length k5) ∧ W.cell? ⟨gb', o' + k * 15 + 13, none⟩ = some (.int .i64 g13) ∧ W.cell? ⟨gb', o' + k * 15 + 14, none⟩ = some (.int .i64 g14))) := fun W hW => ⟨unhide HD W hW 0 _ rfl, unhide HD W hW 1 _ rfl, unhide HD W hW 2 _ rfl, unhide HD W hW 3 _ rfl, unhide HD W hW 4 _ rfl, unhide HD W hW 5 _ rfl, unhide HD W hW 6 _ rfl, unhide HD W hW 7 _ rfl, unhide HD W hW 8 _ rfl, unhide HD W hW 9 _ rfl, unhide HD W hW 10 _ rfl, unhide HD W hW 11 _ rfl, unhide HD W hW 12 _ rfl, unhide HD W hW 13 _ rfl, unhide HD W hW 14 _ rfl⟩
    clear HD
    unfold cmV cmC
    obtain ⟨LA, hA⟩ : ∃ z, z = adds.length := ⟨_, rfl⟩
    obtain ⟨LR, hR⟩ : ∃ z, z = rem.length := ⟨_, rfl⟩
    obtain ⟨LQ, hQ⟩ : ∃ z, z = seals.length := ⟨_, rfl⟩
    obtain ⟨LJ, hJ⟩ : ∃ z, z = joins.length := ⟨_, rfl⟩
    obtain ⟨LN, hNn⟩ : ∃ z, z = next.length := ⟨_, rfl⟩
    rw [← hA, ← hR, ← hQ, ← hJ, ← hNn] at HD2 HX
    clear hA hR hQ hJ hNn
    go_enter Tryz.func11, Tryz.ntmps11
    go_upto_region 1 with fail
    rw [← unhide HW]
    go_wp2_with fail
    refine (unhide KL).mono ?_
    rintro y w1 ⟨rfl, b1⟩
    have B1 := hide (bw_tr (unhide HK).2 b1)
    have B1' := hide b1
    clear b1
    go_wp2_with fail
    refine (unhide KP w1 (unhide B1)).mono ?_
    rintro y w2 ⟨rfl, b2⟩
    have kz := kept_b (unhide HK).1 (lt_of_blk (unhide HK).1) (bw_tr (unhide B1') b2)
    have B2 := hide (bw_tr (unhide B1) b2)
    have d1 := unhide HC w2 (unhide B2)
    obtain ⟨y0, y1, y2, y3, y4, y5, y6, y7, y8, y9, y10, y11, y12, y13, y14⟩ := unhide HD2 w2 (unhide B2)
    have fz := fun j => froz_b (i := j) kz
    have s0 : w2.cell? ⟨w.heap.size, 0, none⟩ = some (.int .i64 0) := blk_c kz rfl
    have s1 : w2.cell? ⟨w.heap.size, 1, none⟩ = some (.int .i64 0) := blk_c kz rfl
    have s2 : w2.cell? ⟨w.heap.size, 2, none⟩ = some (.int .i64 0) := blk_c kz rfl
    have s3 : w2.cell? ⟨w.heap.size, 3, none⟩ = some (.int .i64 0) := blk_c kz rfl
    have s4 : w2.cell? ⟨w.heap.size, 4, none⟩ = some (.int .i64 0) := blk_c kz rfl
    have s5 : w2.cell? ⟨w.heap.size, 5, none⟩ = some (.bool false) := blk_c kz rfl
    have s6 : w2.cell? ⟨w.heap.size, 6, none⟩ = some (.slice none 0 0) := blk_c kz rfl
    have s7 : w2.cell? ⟨w.heap.size, 7, none⟩ = some (.slice none 0 0) := blk_c kz rfl
    have s8 : w2.cell? ⟨w.heap.size, 8, none⟩ = some (.slice none 0 0) := blk_c kz rfl
    have s9 : w2.cell? ⟨w.heap.size, 9, none⟩ = some (.slice none 0 0) := blk_c kz rfl
    have s10 : w2.cell? ⟨w.heap.size, 10, none⟩ = some (.int .i64 0) := blk_c kz rfl
    have s11 : w2.cell? ⟨w.heap.size, 11, none⟩ = some (.int .i64 0) := blk_c kz rfl
    have s12 : w2.cell? ⟨w.heap.size, 12, none⟩ = some (.slice none 0 0) := blk_c kz rfl
    have s13 : w2.cell? ⟨w.heap.size, 13, none⟩ = some (.int .i64 0) := blk_c kz rfl
    have s14 : w2.cell? ⟨w.heap.size, 14, none⟩ = some (.int .i64 0) := blk_c kz rfl
    obtain ⟨WZ, hWZ⟩ : ∃ W, W = pokes w2 w.heap.size 0 [.int .i64 g0, .int .i64 g1, .int .i64 g2, .int .i64 g3, .int .i64 g4, .bool g5, .slice a1 LA k1, .slice a2 LR k2, .slice a3 LQ k3, .slice a4 LJ k4, .int .i64 g10, .int .i64 g11, .slice a5 LN k5, .int .i64 g13, .int .i64 g14] := ⟨_, rfl⟩
    have z : WZ.heap[w.heap.size]? = some (.cells #[.int .i64 g0, .int .i64 g1, .int .i64 g2, .int .i64 g3, .int .i64 g4, .bool g5, .slice a1 LA k1, .slice a2 LR k2, .slice a3 LQ k3, .slice a4 LJ k4, .int .i64 g10, .int .i64 g11, .slice a5 LN k5, .int .i64 g13, .int .i64 g14] 34 (0, 0)) := by
      rw [hWZ, pokes_at _ _ _ _ kz, pk_all (by rfl)]
    have HB : Hid (Below w.heap.size w WZ) := by unfold Hid; rw [hWZ]; exact pokes_below (Nat.le_refl _) _ _ _ (unhide B2)
    have HZ : Hid (WZ = (((((((((((((((w2.setCell ⟨w.heap.size, 0, none⟩ (.int .i64 g0)).setCell ⟨w.heap.size, 1, none⟩ (.int .i64 g1)).setCell ⟨w.heap.size, 2, none⟩ (.int .i64 g2)).setCell ⟨w.heap.size, 3, none⟩ (.int .i64 g3)).setCell ⟨w.heap.size, 4, none⟩ (.int .i64 g4)).setCell ⟨w.heap.size, 5, none⟩ (.bool g5)).setCell ⟨w.heap.size, 6, none⟩ (.slice a1 LA k1)).setCell ⟨w.heap.size, 7, none⟩ (.slice a2 LR k2)).setCell ⟨w.heap.size, 8, none⟩ (.slice a3 LQ k3)).setCell ⟨w.heap.size, 9, none⟩ (.slice a4 LJ k4)).setCell ⟨w.heap.size, 10, none⟩ (.int .i64 g10)).setCell ⟨w.heap.size, 11, none⟩ (.int .i64 g11)).setCell ⟨w.heap.size, 12, none⟩ (.slice a5 LN k5)).setCell ⟨w.heap.size, 13, none⟩ (.int .i64 g13)).setCell ⟨w.heap.size, 14, none⟩ (.int .i64 g14))) := hWZ
    have z0 : WZ.cell? ⟨w.heap.size, 0, none⟩ = some (.int .i64 g0) := blk_c z rfl
    have z1 : WZ.cell? ⟨w.heap.size, 1, none⟩ = some (.int .i64 g1) := blk_c z rfl
    have z2 : WZ.cell? ⟨w.heap.size, 2, none⟩ = some (.int .i64 g2) := blk_c z rfl
    have z3 : WZ.cell? ⟨w.heap.size, 3, none⟩ = some (.int .i64 g3) := blk_c z rfl
    have z4 : WZ.cell? ⟨w.heap.size, 4, none⟩ = some (.int .i64 g4) := blk_c z rfl
    have z5 : WZ.cell? ⟨w.heap.size, 5, none⟩ = some (.bool g5) := blk_c z rfl
    have z6 : WZ.cell? ⟨w.heap.size, 6, none⟩ = some (.slice a1 LA k1) := blk_c z rfl
    have z7 : WZ.cell? ⟨w.heap.size, 7, none⟩ = some (.slice a2 LR k2) := blk_c z rfl
    have z8 : WZ.cell? ⟨w.heap.size, 8, none⟩ = some (.slice a3 LQ k3) := blk_c z rfl
    have z9 : WZ.cell? ⟨w.heap.size, 9, none⟩ = some (.slice a4 LJ k4) := blk_c z rfl
    have z10 : WZ.cell? ⟨w.heap.size, 10, none⟩ = some (.int .i64 g10) := blk_c z rfl
    have z11 : WZ.cell? ⟨w.heap.size, 11, none⟩ = some (.int .i64 g11) := blk_c z rfl
    have z12 : WZ.cell? ⟨w.heap.size, 12, none⟩ = some (.slice a5 LN k5) := blk_c z rfl
    have z13 : WZ.cell? ⟨w.heap.size, 13, none⟩ = some (.int .i64 g13) := blk_c z rfl
    have z14 : WZ.cell? ⟨w.heap.size, 14, none⟩ = some (.int .i64 g14) := blk_c z rfl
    clear hWZ z kz b2 B1 B1' B2 HC HD2 KP KL HK HW
    go_wp2_with fail
    rw [← unhide HZ]
    exact bodyPost_ret (v := .tuple #[.agg #[.int .i64 g0, .int .i64 g1, .int .i64 g2, .int .i64 g3, .int .i64 g4, .bool g5, .slice a1 LA k1, .slice a2 LR k2, .slice a3 LQ k3, .slice a4 LJ k4, .int .i64 g10, .int .i64 g11, .slice a5 LN k5, .int .i64 g13, .int .i64 g14], .bool true]) (by simp [results, Tryz.results11, go_sem, z0, z1, z2, z3, z4, z5, z6, z7, z8, z9, z10, z11, z12, z13, z14]) rfl ⟨⟨.slice a1 LA k1, .slice a2 LR k2, .slice a3 LQ k3, .slice a4 LJ k4, .slice a5 LN k5⟩, rfl, unhide HX, unhide HB⟩
  · have hget : getL l g e = none := by unfold getL; rw [if_neg he]
    rw [hget]
    simp only [Option.getD_none, Option.isSome_none]
    obtain ⟨L, hL⟩ : ∃ z, z = lenL l g := ⟨_, rfl⟩
    rw [← hL] at KL he hLb
    have hLI : (L : Int) ≤ 140737488355328 := by omega
    have HF : Hid (∀ W, Below w0.heap.size w0 W → W.heap[w.heap.size]? = some (.cells cm0 34 (0, 0)) ∧ Below w.heap.size w W) := fun W hW => ⟨kept_b kk (lt_of_blk kk) hW, bw_tr bl hW⟩
    clear h h0 hb hN hl hw0 bl kk hget hL HK KP hLb
    by_cases hn : e < 0
    · go_enter Tryz.func11, Tryz.ntmps11
      go_upto_region 1 with fail
      rw [← unhide HW]
      obtain ⟨kz, B⟩ := unhide HF w0 (Below.refl _ _)
      have fz := fun j => froz_b (i := j) kz
      have s0 : w0.cell? ⟨w.heap.size, 0, none⟩ = some (.int .i64 0) := blk_c kz rfl
      have s1 : w0.cell? ⟨w.heap.size, 1, none⟩ = some (.int .i64 0) := blk_c kz rfl
      have s2 : w0.cell? ⟨w.heap.size, 2, none⟩ = some (.int .i64 0) := blk_c kz rfl
      have s3 : w0.cell? ⟨w.heap.size, 3, none⟩ = some (.int .i64 0) := blk_c kz rfl
      have s4 : w0.cell? ⟨w.heap.size, 4, none⟩ = some (.int .i64 0) := blk_c kz rfl
      have s5 : w0.cell? ⟨w.heap.size, 5, none⟩ = some (.bool false) := blk_c kz rfl
      have s6 : w0.cell? ⟨w.heap.size, 6, none⟩ = some (.slice none 0 0) := blk_c kz rfl
      have s7 : w0.cell? ⟨w.heap.size, 7, none⟩ = some (.slice none 0 0) := blk_c kz rfl
      have s8 : w0.cell? ⟨w.heap.size, 8, none⟩ = some (.slice none 0 0) := blk_c kz rfl
      have s9 : w0.cell? ⟨w.heap.size, 9, none⟩ = some (.slice none 0 0) := blk_c kz rfl
      have s10 : w0.cell? ⟨w.heap.size, 10, none⟩ = some (.int .i64 0) := blk_c kz rfl
      have s11 : w0.cell? ⟨w.heap.size, 11, none⟩ = some (.int .i64 0) := blk_c kz rfl
      have s12 : w0.cell? ⟨w.heap.size, 12, none⟩ = some (.slice none 0 0) := blk_c kz rfl
      have s13 : w0.cell? ⟨w.heap.size, 13, none⟩ = some (.int .i64 0) := blk_c kz rfl
      have s14 : w0.cell? ⟨w.heap.size, 14, none⟩ = some (.int .i64 0) := blk_c kz rfl
      obtain ⟨WZ, hWZ⟩ : ∃ W, W = pokes w0 w.heap.size 0 [.int .i64 0, .int .i64 0, .int .i64 0, .int .i64 0, .int .i64 0, .bool false, .slice none 0 0, .slice none 0 0, .slice none 0 0, .slice none 0 0, .int .i64 0, .int .i64 0, .slice none 0 0, .int .i64 0, .int .i64 0] := ⟨_, rfl⟩
      have z : WZ.heap[w.heap.size]? = some (.cells #[.int .i64 0, .int .i64 0, .int .i64 0, .int .i64 0, .int .i64 0, .bool false, .slice none 0 0, .slice none 0 0, .slice none 0 0, .slice none 0 0, .int .i64 0, .int .i64 0, .slice none 0 0, .int .i64 0, .int .i64 0] 34 (0, 0)) := by
        rw [hWZ, pokes_at _ _ _ _ kz, pk_all (by rfl)]
      have HB : Hid (Below w.heap.size w WZ) := by unfold Hid; rw [hWZ]; exact pokes_below (Nat.le_refl _) _ _ _ B
      have HZ : Hid (WZ = (((((((((((((((w0.setCell ⟨w.heap.size, 0, none⟩ (.int .i64 0)).setCell ⟨w.heap.size, 1, none⟩ (.int .i64 0)).setCell ⟨w.heap.size, 2, none⟩ (.int .i64 0)).setCell ⟨w.heap.size, 3, none⟩ (.int .i64 0)).setCell ⟨w.heap.size, 4, none⟩ (.int .i64 0)).setCell ⟨w.heap.size, 5, none⟩ (.bool false)).setCell ⟨w.heap.size, 6, none⟩ (.slice none 0 0)).setCell ⟨w.heap.size, 7, none⟩ (.slice none 0 0)).setCell ⟨w.heap.size, 8, none⟩ (.slice none 0 0)).setCell ⟨w.heap.size, 9, none⟩ (.slice none 0 0)).setCell ⟨w.heap.size, 10, none⟩ (.int .i64 0)).setCell ⟨w.heap.size, 11, none⟩ (.int .i64 0)).setCell ⟨w.heap.size, 12, none⟩ (.slice none 0 0)).setCell ⟨w.heap.size, 13, none⟩ (.int .i64 0)).setCell ⟨w.heap.size, 14, none⟩ (.int .i64 0))) := hWZ
      have z0 : WZ.cell? ⟨w.heap.size, 0, none⟩ = some (.int .i64 0) := blk_c z rfl
      have z1 : WZ.cell? ⟨w.heap.size, 1, none⟩ = some (.int .i64 0) := blk_c z rfl
      have z2 : WZ.cell? ⟨w.heap.size, 2, none⟩ = some (.int .i64 0) := blk_c z rfl
      have z3 : WZ.cell? ⟨w.heap.size, 3, none⟩ = some (.int .i64 0) := blk_c z rfl
      have z4 : WZ.cell? ⟨w.heap.size, 4, none⟩ = some (.int .i64 0) := blk_c z rfl
      have z5 : WZ.cell? ⟨w.heap.size, 5, none⟩ = some (.bool false) := blk_c z rfl
      have z6 : WZ.cell? ⟨w.heap.size, 6, none⟩ = some (.slice none 0 0) := blk_c z rfl
      have z7 : WZ.cell? ⟨w.heap.size, 7, none⟩ = some (.slice none 0 0) := blk_c z rfl
      have z8 : WZ.cell? ⟨w.heap.size, 8, none⟩ = some (.slice none 0 0) := blk_c z rfl
      have z9 : WZ.cell? ⟨w.heap.size, 9, none⟩ = some (.slice none 0 0) := blk_c z rfl
      have z10 : WZ.cell? ⟨w.heap.size, 10, none⟩ = some (.int .i64 0) := blk_c z rfl
      have z11 : WZ.cell? ⟨w.heap.size, 11, none⟩ = some (.int .i64 0) := blk_c z rfl
      have z12 : WZ.cell? ⟨w.heap.size, 12, none⟩ = some (.slice none 0 0) := blk_c z rfl
      have z13 : WZ.cell? ⟨w.heap.size, 13, none⟩ = some (.int .i64 0) := blk_c z rfl
      have z14 : WZ.cell? ⟨w.heap.size, 14, none⟩ = some (.int .i64 0) := blk_c z rfl
      clear hWZ z kz B
      go_wp2_with fail
      rw [← unhide HZ]
      exact bodyPost_ret (v := .tuple #[.agg #[.int .i64 0, .int .i64 0, .int .i64 0, .int .i64 0, .int .i64 0, .bool false, .slice none 0 0, .slice none 0 0, .slice none 0 0, .slice none 0 0, .int .i64 0, .int .i64 0, .slice none 0 0, .int .i64 0, .int .i64 0], .bool false]) (by simp [results, Tryz.results11, go_sem, z0, z1, z2, z3, z4, z5, z6, z7, z8, z9, z10, z11, z12, z13, z14]) rfl ⟨cv00, rfl, cm00_r _, unhide HB⟩
    · have q1 : (L : Int) ≤ e := by omega
      have q2 : ¬ e < 0 := hn
      go_enter Tryz.func11, Tryz.ntmps11
      go_upto_region 1 with fail
      rw [← unhide HW]
      go_wp2_with fail
      refine (unhide KL).mono ?_
      rintro y w1 ⟨rfl, b1⟩
      obtain ⟨kz, B⟩ := unhide HF w1 b1
      clear b1
      have fz := fun j => froz_b (i := j) kz
      have s0 : w1.cell? ⟨w.heap.size, 0, none⟩ = some (.int .i64 0) := blk_c kz rfl
      have s1 : w1.cell? ⟨w.heap.size, 1, none⟩ = some (.int .i64 0) := blk_c kz rfl
      have s2 : w1.cell? ⟨w.heap.size, 2, none⟩ = some (.int .i64 0) := blk_c kz rfl
      have s3 : w1.cell? ⟨w.heap.size, 3, none⟩ = some (.int .i64 0) := blk_c kz rfl
      have s4 : w1.cell? ⟨w.heap.size, 4, none⟩ = some (.int .i64 0) := blk_c kz rfl
      have s5 : w1.cell? ⟨w.heap.size, 5, none⟩ = some (.bool false) := blk_c kz rfl
      have s6 : w1.cell? ⟨w.heap.size, 6, none⟩ = some (.slice none 0 0) := blk_c kz rfl
      have s7 : w1.cell? ⟨w.heap.size, 7, none⟩ = some (.slice none 0 0) := blk_c kz rfl
      have s8 : w1.cell? ⟨w.heap.size, 8, none⟩ = some (.slice none 0 0) := blk_c kz rfl
      have s9 : w1.cell? ⟨w.heap.size, 9, none⟩ = some (.slice none 0 0) := blk_c kz rfl
      have s10 : w1.cell? ⟨w.heap.size, 10, none⟩ = some (.int .i64 0) := blk_c kz rfl
      have s11 : w1.cell? ⟨w.heap.size, 11, none⟩ = some (.int .i64 0) := blk_c kz rfl
      have s12 : w1.cell? ⟨w.heap.size, 12, none⟩ = some (.slice none 0 0) := blk_c kz rfl
      have s13 : w1.cell? ⟨w.heap.size, 13, none⟩ = some (.int .i64 0) := blk_c kz rfl
      have s14 : w1.cell? ⟨w.heap.size, 14, none⟩ = some (.int .i64 0) := blk_c kz rfl
      obtain ⟨WZ, hWZ⟩ : ∃ W, W = pokes w1 w.heap.size 0 [.int .i64 0, .int .i64 0, .int .i64 0, .int .i64 0, .int .i64 0, .bool false, .slice none 0 0, .slice none 0 0, .slice none 0 0, .slice none 0 0, .int .i64 0, .int .i64 0, .slice none 0 0, .int .i64 0, .int .i64 0] := ⟨_, rfl⟩
      have z : WZ.heap[w.heap.size]? = some (.cells #[.int .i64 0, .int .i64 0, .int .i64 0, .int .i64 0, .int .i64 0, .bool false, .slice none 0 0, .slice none 0 0, .slice none 0 0, .slice none 0 0, .int .i64 0, .int .i64 0, .slice none 0 0, .int .i64 0, .int .i64 0] 34 (0, 0)) := by
        rw [hWZ, pokes_at _ _ _ _ kz, pk_all (by rfl)]
      have HB : Hid (Below w.heap.size w WZ) := by unfold Hid; rw [hWZ]; exact pokes_below (Nat.le_refl _) _ _ _ B
      have HZ : Hid (WZ = (((((((((((((((w1.setCell ⟨w.heap.size, 0, none⟩ (.int .i64 0)).setCell ⟨w.heap.size, 1, none⟩ (.int .i64 0)).setCell ⟨w.heap.size, 2, none⟩ (.int .i64 0)).setCell ⟨w.heap.size, 3, none⟩ (.int .i64 0)).setCell ⟨w.heap.size, 4, none⟩ (.int .i64 0)).setCell ⟨w.heap.size, 5, none⟩ (.bool false)).setCell ⟨w.heap.size, 6, none⟩ (.slice none 0 0)).setCell ⟨w.heap.size, 7, none⟩ (.slice none 0 0)).setCell ⟨w.heap.size, 8, none⟩ (.slice none 0 0)).setCell ⟨w.heap.size, 9, none⟩ (.slice none 0 0)).setCell ⟨w.heap.size, 10, none⟩ (.int .i64 0)).setCell ⟨w.heap.size, 11, none⟩ (.int .i64 0)).setCell ⟨w.heap.size, 12, none⟩ (.slice none 0 0)).setCell ⟨w.heap.size, 13, none⟩ (.int .i64 0)).setCell ⟨w.heap.size, 14, none⟩ (.int .i64 0))) := hWZ
      have z0 : WZ.cell? ⟨w.heap.size, 0, none⟩ = some (.int .i64 0) := blk_c z rfl
      have z1 : WZ.cell? ⟨w.heap.size, 1, none⟩ = some (.int .i64 0) := blk_c z rfl
      have z2 : WZ.cell? ⟨w.heap.size, 2, none⟩ = some (.int .i64 0) := blk_c z rfl
      have z3 : WZ.cell? ⟨w.heap.size, 3, none⟩ = some (.int .i64 0) := blk_c z rfl
      have z4 : WZ.cell? ⟨w.heap.size, 4, none⟩ = some (.int .i64 0) := blk_c z rfl
      have z5 : WZ.cell? ⟨w.heap.size, 5, none⟩ = some (.bool false) := blk_c z rfl
      have z6 : WZ.cell? ⟨w.heap.size, 6, none⟩ = some (.slice none 0 0) := blk_c z rfl
      have z7 : WZ.cell? ⟨w.heap.size, 7, none⟩ = some (.slice none 0 0) := blk_c z rfl
      have z8 : WZ.cell? ⟨w.heap.size, 8, none⟩ = some (.slice none 0 0) := blk_c z rfl
      have z9 : WZ.cell? ⟨w.heap.size, 9, none⟩ = some (.slice none 0 0) := blk_c z rfl
      have z10 : WZ.cell? ⟨w.heap.size, 10, none⟩ = some (.int .i64 0) := blk_c z rfl
      have z11 : WZ.cell? ⟨w.heap.size, 11, none⟩ = some (.int .i64 0) := blk_c z rfl
      have z12 : WZ.cell? ⟨w.heap.size, 12, none⟩ = some (.slice none 0 0) := blk_c z rfl
      have z13 : WZ.cell? ⟨w.heap.size, 13, none⟩ = some (.int .i64 0) := blk_c z rfl
      have z14 : WZ.cell? ⟨w.heap.size, 14, none⟩ = some (.int .i64 0) := blk_c z rfl
      clear hWZ z kz B
      go_wp2_with fail
      rw [← unhide HZ]
      exact bodyPost_ret (v := .tuple #[.agg #[.int .i64 0, .int .i64 0, .int .i64 0, .int .i64 0, .int .i64 0, .bool false, .slice none 0 0, .slice none 0 0, .slice none 0 0, .slice none 0 0, .int .i64 0, .int .i64 0, .slice none 0 0, .int .i64 0, .int .i64 0], .bool false]) (by simp [results, Tryz.results11, go_sem, z0, z1, z2, z3, z4, z5, z6, z7, z8, z9, z10, z11, z12, z13, z14]) rfl ⟨cv00, rfl, cm00_r _, unhide HB⟩
theorem rget_any {w : World} {v : Value} {l : List Lg} (h : Lgs w v l) (g e : Int) :
    Calls Tryz.prog 11 #[v, .int .i64 g, .int .i64 e] w fun r w' => ∃ x, r = .returned (.tuple #[cmV ((getL l g e).getD cm00) x, .bool (getL l g e).isSome]) ∧ CmR w ((getL l g e).getD cm00) x ∧ Below w.heap.size w w' := rget_of h (Below.refl _ _) g e
end Go.Proofs.YtnfhbmlmemifjaaGreatDoor

/- The document's Last of logs. -/
namespace Go.Proofs.YtnfhbmlmemifjaaGreatDoor
open Go.RowKit Go.Maps
theorem lenL_le {w : World} {v : Value} {l : List Lg} (h : Lgs w v l) (g : Int) : lenL l g ≤ 140737488355328 := by
  obtain ⟨a, cap, rfl⟩ := h.slice
  unfold lenL
  split
  · rcases plF_cases l g with ⟨-, e2⟩ | ⟨i, p, -, e2, e3⟩
    · rw [e2]; simp
    · rw [e3]
      obtain ⟨gb, o, -, cv, hcv, -, -⟩ := h.get e2
      exact hcv.len
  · omega
set_option maxRecDepth 100000 in
set_option maxHeartbeats 8000000 in
theorem rlast_any {w : World} {v : Value} {l : List Lg} (h : Lgs w v l) (g : Int) :
    Calls Tryz.prog 12 #[v, .int .i64 g] w fun r w' => ∃ x, r = .returned (.tuple #[cmV ((getL l g ((lenL l g : Int) - 1)).getD cm00) x, .bool (getL l g ((lenL l g : Int) - 1)).isSome]) ∧ CmR w ((getL l g ((lenL l g : Int) - 1)).getD cm00) x ∧ Below w.heap.size w w' := by
  obtain ⟨w0, hw0⟩ : ∃ w0, w0 = w.alloc (.cells cm0 34) := ⟨_, rfl⟩
  have bl : Below w.heap.size w w0 := by rw [hw0]; exact bwA _ _
  have kk : w0.heap[w.heap.size]? = some (.cells cm0 34 (0, 0)) := by rw [hw0]; exact heap_alloc_new _ _
  have KL := hide (rlen_any (h.bw bl) g)
  have hLb := lenL_le h g
  obtain ⟨L, hL⟩ : ∃ z, z = lenL l g := ⟨_, rfl⟩
  rw [← hL] at KL hLb ⊢
  have hLI : (L : Int) ≤ 140737488355328 := by omega
  obtain ⟨ot, hot⟩ : ∃ z, z = getL l g ((L : Int) - 1) := ⟨_, rfl⟩
  rw [← hot]
  have KG : Hid (∀ W, Below w.heap.size w W → Calls Tryz.prog 11 #[v, .int .i64 g, .int .i64 ((L : Int) - 1)] W fun r w' => ∃ x, r = .returned (.tuple #[cmV (ot.getD cm00) x, .bool ot.isSome]) ∧ CmR w (ot.getD cm00) x ∧ Below W.heap.size W w') := fun W hW => by rw [hot]; exact rget_of h hW g _
  obtain ⟨a, cap, rfl⟩ := h.slice
  generalize l.length = N at *
  have HW : Hid (w0 = w.alloc (.cells #[.int .i64 0, .int .i64 0, .int .i64 0, .int .i64 0, .int .i64 0, .bool false, .slice none 0 0, .slice none 0 0, .slice none 0 0, .slice none 0 0, .int .i64 0, .int .i64 0, .slice none 0 0, .int .i64 0, .int .i64 0] 34)) := hw0
  have HK := hide (And.intro kk bl)
  generalize ot.getD cm00 = c at *
  generalize ot.isSome = ok at *
  clear h hw0 bl kk hL hot hLb
  go_enter Tryz.func12, Tryz.ntmps12
  go_upto_region 1 with fail
  rw [← unhide HW]
  go_wp2_with fail
  refine (unhide KL).mono ?_
  rintro y w1 ⟨rfl, b1⟩
  have B1 := hide (bw_tr (unhide HK).2 b1)
  have B1' := hide b1
  clear b1
  go_wp2_with fail
  refine (unhide KG w1 (unhide B1)).mono ?_
  rintro y w2 ⟨x, rfl, hx, b2⟩
  have kz := kept_b (unhide HK).1 (lt_of_blk (unhide HK).1) (bw_tr (unhide B1') b2)
  have B2 := hide (bw_tr (unhide B1) b2)
  obtain ⟨a1, k1, x1⟩ := hx.adds.slice
  obtain ⟨a2, k2, x2⟩ := nums_slice hx.rem
  obtain ⟨a3, k3, x3⟩ := hx.seals.slice
  obtain ⟨a4, k4, x4⟩ := hx.joins.slice
  obtain ⟨a5, k5, x5⟩ := hx.next.slice
  have HX := hide hx
  clear hx
  obtain ⟨g0, g1, g2, g3, g4, g5, adds, rem, seals, joins, g10, g11, next, g13, g14⟩ := c
  obtain ⟨av, rv, qv, jv, nv⟩ := x
  simp only at x1 x2 x3 x4 x5
  subst x1 x2 x3 x4 x5
  unfold cmV cmC
  obtain ⟨LA, hA⟩ : ∃ z, z = adds.length := ⟨_, rfl⟩
  obtain ⟨LR, hR⟩ : ∃ z, z = rem.length := ⟨_, rfl⟩
  obtain ⟨LQ, hQ⟩ : ∃ z, z = seals.length := ⟨_, rfl⟩
  obtain ⟨LJ, hJ⟩ : ∃ z, z = joins.length := ⟨_, rfl⟩
  obtain ⟨LN, hNn⟩ : ∃ z, z = next.length := ⟨_, rfl⟩
  rw [← hA, ← hR, ← hQ, ← hJ, ← hNn] at HX ⊢
  clear hA hR hQ hJ hNn
  have fz := fun j => froz_b (i := j) kz
  have s0 : w2.cell? ⟨w.heap.size, 0, none⟩ = some (.int .i64 0) := blk_c kz rfl
  have s1 : w2.cell? ⟨w.heap.size, 1, none⟩ = some (.int .i64 0) := blk_c kz rfl
  have s2 : w2.cell? ⟨w.heap.size, 2, none⟩ = some (.int .i64 0) := blk_c kz rfl
  have s3 : w2.cell? ⟨w.heap.size, 3, none⟩ = some (.int .i64 0) := blk_c kz rfl
  have s4 : w2.cell? ⟨w.heap.size, 4, none⟩ = some (.int .i64 0) := blk_c kz rfl
  have s5 : w2.cell? ⟨w.heap.size, 5, none⟩ = some (.bool false) := blk_c kz rfl
  have s6 : w2.cell? ⟨w.heap.size, 6, none⟩ = some (.slice none 0 0) := blk_c kz rfl
  have s7 : w2.cell? ⟨w.heap.size, 7, none⟩ = some (.slice none 0 0) := blk_c kz rfl
  have s8 : w2.cell? ⟨w.heap.size, 8, none⟩ = some (.slice none 0 0) := blk_c kz rfl
  have s9 : w2.cell? ⟨w.heap.size, 9, none⟩ = some (.slice none 0 0) := blk_c kz rfl
  have s10 : w2.cell? ⟨w.heap.size, 10, none⟩ = some (.int .i64 0) := blk_c kz rfl
  have s11 : w2.cell? ⟨w.heap.size, 11, none⟩ = some (.int .i64 0) := blk_c kz rfl
  have s12 : w2.cell? ⟨w.heap.size, 12, none⟩ = some (.slice none 0 0) := blk_c kz rfl
  have s13 : w2.cell? ⟨w.heap.size, 13, none⟩ = some (.int .i64 0) := blk_c kz rfl
  have s14 : w2.cell? ⟨w.heap.size, 14, none⟩ = some (.int .i64 0) := blk_c kz rfl
  obtain ⟨WZ, hWZ⟩ : ∃ W, W = pokes w2 w.heap.size 0 [.int .i64 g0, .int .i64 g1, .int .i64 g2, .int .i64 g3, .int .i64 g4, .bool g5, .slice a1 LA k1, .slice a2 LR k2, .slice a3 LQ k3, .slice a4 LJ k4, .int .i64 g10, .int .i64 g11, .slice a5 LN k5, .int .i64 g13, .int .i64 g14] := ⟨_, rfl⟩
  have z : WZ.heap[w.heap.size]? = some (.cells #[.int .i64 g0, .int .i64 g1, .int .i64 g2, .int .i64 g3, .int .i64 g4, .bool g5, .slice a1 LA k1, .slice a2 LR k2, .slice a3 LQ k3, .slice a4 LJ k4, .int .i64 g10, .int .i64 g11, .slice a5 LN k5, .int .i64 g13, .int .i64 g14] 34 (0, 0)) := by
    rw [hWZ, pokes_at _ _ _ _ kz, pk_all (by rfl)]
  have HB : Hid (Below w.heap.size w WZ) := by unfold Hid; rw [hWZ]; exact pokes_below (Nat.le_refl _) _ _ _ (unhide B2)
  have HZ : Hid (WZ = (((((((((((((((w2.setCell ⟨w.heap.size, 0, none⟩ (.int .i64 g0)).setCell ⟨w.heap.size, 1, none⟩ (.int .i64 g1)).setCell ⟨w.heap.size, 2, none⟩ (.int .i64 g2)).setCell ⟨w.heap.size, 3, none⟩ (.int .i64 g3)).setCell ⟨w.heap.size, 4, none⟩ (.int .i64 g4)).setCell ⟨w.heap.size, 5, none⟩ (.bool g5)).setCell ⟨w.heap.size, 6, none⟩ (.slice a1 LA k1)).setCell ⟨w.heap.size, 7, none⟩ (.slice a2 LR k2)).setCell ⟨w.heap.size, 8, none⟩ (.slice a3 LQ k3)).setCell ⟨w.heap.size, 9, none⟩ (.slice a4 LJ k4)).setCell ⟨w.heap.size, 10, none⟩ (.int .i64 g10)).setCell ⟨w.heap.size, 11, none⟩ (.int .i64 g11)).setCell ⟨w.heap.size, 12, none⟩ (.slice a5 LN k5)).setCell ⟨w.heap.size, 13, none⟩ (.int .i64 g13)).setCell ⟨w.heap.size, 14, none⟩ (.int .i64 g14))) := hWZ
  have z0 : WZ.cell? ⟨w.heap.size, 0, none⟩ = some (.int .i64 g0) := blk_c z rfl
  have z1 : WZ.cell? ⟨w.heap.size, 1, none⟩ = some (.int .i64 g1) := blk_c z rfl
  have z2 : WZ.cell? ⟨w.heap.size, 2, none⟩ = some (.int .i64 g2) := blk_c z rfl
  have z3 : WZ.cell? ⟨w.heap.size, 3, none⟩ = some (.int .i64 g3) := blk_c z rfl
  have z4 : WZ.cell? ⟨w.heap.size, 4, none⟩ = some (.int .i64 g4) := blk_c z rfl
  have z5 : WZ.cell? ⟨w.heap.size, 5, none⟩ = some (.bool g5) := blk_c z rfl
  have z6 : WZ.cell? ⟨w.heap.size, 6, none⟩ = some (.slice a1 LA k1) := blk_c z rfl
  have z7 : WZ.cell? ⟨w.heap.size, 7, none⟩ = some (.slice a2 LR k2) := blk_c z rfl
  have z8 : WZ.cell? ⟨w.heap.size, 8, none⟩ = some (.slice a3 LQ k3) := blk_c z rfl
  have z9 : WZ.cell? ⟨w.heap.size, 9, none⟩ = some (.slice a4 LJ k4) := blk_c z rfl
  have z10 : WZ.cell? ⟨w.heap.size, 10, none⟩ = some (.int .i64 g10) := blk_c z rfl
  have z11 : WZ.cell? ⟨w.heap.size, 11, none⟩ = some (.int .i64 g11) := blk_c z rfl
  have z12 : WZ.cell? ⟨w.heap.size, 12, none⟩ = some (.slice a5 LN k5) := blk_c z rfl
  have z13 : WZ.cell? ⟨w.heap.size, 13, none⟩ = some (.int .i64 g13) := blk_c z rfl
  have z14 : WZ.cell? ⟨w.heap.size, 14, none⟩ = some (.int .i64 g14) := blk_c z rfl
  clear hWZ z kz b2 B1 B1' B2 KG KL HK HW
  go_wp2_with fail
  rw [← unhide HZ]
  exact bodyPost_ret (v := .tuple #[.agg #[.int .i64 g0, .int .i64 g1, .int .i64 g2, .int .i64 g3, .int .i64 g4, .bool g5, .slice a1 LA k1, .slice a2 LR k2, .slice a3 LQ k3, .slice a4 LJ k4, .int .i64 g10, .int .i64 g11, .slice a5 LN k5, .int .i64 g13, .int .i64 g14], .bool ok]) (by simp [results, Tryz.results12, go_sem, z0, z1, z2, z3, z4, z5, z6, z7, z8, z9, z10, z11, z12, z13, z14]) rfl ⟨⟨.slice a1 LA k1, .slice a2 LR k2, .slice a3 LQ k3, .slice a4 LJ k4, .slice a5 LN k5⟩, rfl, unhide HX, unhide HB⟩
end Go.Proofs.YtnfhbmlmemifjaaGreatDoor
