/- Texts joined: LgS LgU. -/
import Derived.Test.YtnfhbmlmemifjaaGreatDoorZ26
/- Get of package ledger. -/
namespace Go.Proofs.YtnfhbmlmemifjaaGreatDoor
open Go.RowKit Go.Maps
theorem oc00 (B : Nat) (w : World) : OC B w cm00 cv00 [] := ⟨World.ownsRow_nil _ _ _ _, World.ownsRow_nil _ _ _ _, World.ownsRow_nil _ _ _ _, World.ownsRow_nil _ _ _ _, otr_nil B w, fun i u k h => by simp at h⟩
set_option maxRecDepth 100000 in
set_option maxHeartbeats 8000000 in
theorem lgGet_any {w : World} {v : Value} {l : List Lg} (h : Lgs w v l) (hs : SmL l) (hT : Tab w) (g e : Int) :
    Calls Tryz.prog 8 #[v, .int .i64 g, .int .i64 e] w fun r w' => ∃ x us, r = .returned (.tuple #[cmV ((getL l g e).getD cm00) x, .bool (getL l g e).isSome]) ∧ OC w.heap.size w' ((getL l g e).getD cm00) x us ∧ Below w.heap.size w w' := by
  obtain ⟨w0, hw0⟩ : ∃ w0, w0 = w.alloc (.cells cm0 34) := ⟨_, rfl⟩
  have bl : Below w.heap.size w w0 := by rw [hw0]; exact bwA _ _
  have kk : w0.heap[w.heap.size]? = some (.cells cm0 34 (0, 0)) := by rw [hw0]; exact heap_alloc_new _ _
  have K1 := hide (commits_any h bl hs (hT.bw bl) g)
  have hsm := cmsL_sm hs g
  have hlen := cmsL_len l g
  obtain ⟨L, hL⟩ : ∃ z, z = lenL l g := ⟨_, rfl⟩
  obtain ⟨cs, hcs⟩ : ∃ z, z = cmsL l g := ⟨_, rfl⟩
  obtain ⟨ot, hot⟩ : ∃ z, z = getL l g e := ⟨_, rfl⟩
  rw [← hL, ← hcs] at K1
  rw [← hcs] at hsm
  rw [← hcs, ← hL] at hlen
  rw [← hot]
  have hLb : L ≤ 1073741824 := by rw [← hlen]; exact hsm.n
  have HOT : Hid ((0 ≤ e → ot = cs[e.toNat]?) ∧ (e < 0 → ot = none)) := ⟨fun q => by rw [hot, hcs]; exact getL_cms l g q, fun q => by rw [hot]; exact getL_neg l g q⟩
  obtain ⟨a, cap, rfl⟩ := h.slice
  generalize l.length = N at *
  have HW : Hid (w0 = w.alloc (.cells #[.int .i64 0, .int .i64 0, .int .i64 0, .int .i64 0, .int .i64 0, .bool false, .slice none 0 0, .slice none 0 0, .slice none 0 0, .slice none 0 0, .int .i64 0, .int .i64 0, .slice none 0 0, .int .i64 0, .int .i64 0] 34)) := hw0
  have HK := hide (And.intro kk bl)
  have HS := hide (And.intro hsm hlen)
  have KH := hide (fun (W : World) (a : Option Addr) (c : Nat) => has_any W a L c e hLb)
  have hLI : (L : Int) ≤ 1073741824 := by omega
  clear h hw0 bl kk hL hot hLb hs hT hcs hsm hlen
  go_enter Tryz.func8, Tryz.ntmps8
  go_upto_region 1 with fail
  rw [← unhide HW]
  clear HW
  go_wp2_with fail
  refine (unhide K1).mono ?_
  rintro y w1 ⟨a9, c9, rfl, hcm, b1⟩
  have HCM := hide hcm
  have HB1 := hide b1
  clear hcm b1 K1
  go_wp2_with fail
  refine (unhide KH w1 a9 c9).mono ?_
  rintro y w1 ⟨rfl, rfl⟩
  clear KH
  by_cases hin : 0 ≤ e ∧ e < (L : Int)
  · rw [decide_eq_true hin]
    obtain ⟨idx, rfl⟩ : ∃ n : Nat, e = (n : Int) := ⟨e.toNat, by omega⟩
    have q1 : (idx : Int) < (L : Int) := hin.2
    have q0 : (0 : Int) ≤ (idx : Int) := hin.1
    have HG : Hid (idx < cs.length ∧ ot = cs[idx]? ∧ SmG (g, cs) ∧ True) := ⟨by have := (unhide HS).2; omega, by have := (unhide HOT).1 q0; simpa using this, (unhide HS).1, trivial⟩
    have hcm := unhide HCM
    have b1 := unhide HB1
    have bl := (unhide HK).2
    clear HOT HS HCM HB1 hin
    obtain ⟨c, hc⟩ : ∃ c, cs[idx]? = some c := ⟨_, List.getElem?_eq_getElem (by have := (unhide HG).1; omega)⟩
    have hot : ot = some c := by rw [(unhide HG).2.1]; exact hc
    have hsc : SmC c := (unhide HG).2.2.1.c c (List.mem_of_getElem? hc)
    obtain ⟨b', o', ea, x, hx, hcc⟩ := hcm.get hc
    subst ea
    have KC := hide (frCommit_any (hx.bw (bw_tr bl b1)) hsc)
    have bw1 := bw_tr bl b1
    have B1 := hide bw1
    subst hot
    have kk1 := hide (kept_b (unhide HK).1 (lt_of_blk (unhide HK).1) b1)
    have hcc' : ∀ j u, (cmC c x)[j]? = some u → w1.cell? ⟨b', o' + idx * 15 + j, none⟩ = some u := fun j u hu => by have := hcc j u hu; rw [bw1.cell (lt_of_cell this)]; exact this
    obtain ⟨a1, k1, x1⟩ := hx.adds.slice
    obtain ⟨a2, k2, x2⟩ := nums_slice hx.rem
    obtain ⟨a3, k3, x3⟩ := hx.seals.slice
    obtain ⟨a4, k4, x4⟩ := hx.joins.slice
    obtain ⟨a5, k5, x5⟩ := hx.next.slice
    clear hc hsc hx hcc HG b1 bw1 hcm
    obtain ⟨g0, g1, g2, g3, g4, g5, adds, rem, seals, joins, g10, g11, next, g13, g14⟩ := c
    obtain ⟨av, rv, qv, jv, nv⟩ := x
    simp only at x1 x2 x3 x4 x5
    subst x1 x2 x3 x4 x5
    obtain ⟨LA, hA⟩ : ∃ z, z = adds.length := ⟨_, rfl⟩
    obtain ⟨LR, hR⟩ : ∃ z, z = rem.length := ⟨_, rfl⟩
    obtain ⟨LQ, hQ⟩ : ∃ z, z = seals.length := ⟨_, rfl⟩
    obtain ⟨LJ, hJ⟩ : ∃ z, z = joins.length := ⟨_, rfl⟩
    obtain ⟨LN, hNn⟩ : ∃ z, z = next.length := ⟨_, rfl⟩
    have HL := hide (And.intro hA (And.intro hR (And.intro hQ (And.intro hJ hNn))))
    rw [← hA, ← hR, ← hQ, ← hJ, ← hNn] at KC hcc'
    clear hA hR hQ hJ hNn
    unfold cmV cmC at KC
    simp only at KC
    have y0 : w1.cell? ⟨b', o' + idx * 15, none⟩ = some (.int .i64 g0) := hcc' 0 _ rfl
    have y1 : w1.cell? ⟨b', o' + idx * 15 + 1, none⟩ = some (.int .i64 g1) := hcc' 1 _ rfl
    have y2 : w1.cell? ⟨b', o' + idx * 15 + 2, none⟩ = some (.int .i64 g2) := hcc' 2 _ rfl
    have y3 : w1.cell? ⟨b', o' + idx * 15 + 3, none⟩ = some (.int .i64 g3) := hcc' 3 _ rfl
    have y4 : w1.cell? ⟨b', o' + idx * 15 + 4, none⟩ = some (.int .i64 g4) := hcc' 4 _ rfl
    have y5 : w1.cell? ⟨b', o' + idx * 15 + 5, none⟩ = some (.bool g5) := hcc' 5 _ rfl
    have y6 : w1.cell? ⟨b', o' + idx * 15 + 6, none⟩ = some (.slice a1 LA k1) := hcc' 6 _ rfl
    have y7 : w1.cell? ⟨b', o' + idx * 15 + 7, none⟩ = some (.slice a2 LR k2) := hcc' 7 _ rfl
    have y8 : w1.cell? ⟨b', o' + idx * 15 + 8, none⟩ = some (.slice a3 LQ k3) := hcc' 8 _ rfl
    have y9 : w1.cell? ⟨b', o' + idx * 15 + 9, none⟩ = some (.slice a4 LJ k4) := hcc' 9 _ rfl
    have y10 : w1.cell? ⟨b', o' + idx * 15 + 10, none⟩ = some (.int .i64 g10) := hcc' 10 _ rfl
    have y11 : w1.cell? ⟨b', o' + idx * 15 + 11, none⟩ = some (.int .i64 g11) := hcc' 11 _ rfl
    have y12 : w1.cell? ⟨b', o' + idx * 15 + 12, none⟩ = some (.slice a5 LN k5) := hcc' 12 _ rfl
    have y13 : w1.cell? ⟨b', o' + idx * 15 + 13, none⟩ = some (.int .i64 g13) := hcc' 13 _ rfl
    have y14 : w1.cell? ⟨b', o' + idx * 15 + 14, none⟩ = some (.int .i64 g14) := hcc' 14 _ rfl
    clear hcc'
    go_wp2_with fail
    refine (unhide KC).mono ?_
    rintro y wz ⟨x', us, rfl, ho, b3⟩
    obtain ⟨a1', k1', e1⟩ := own_slice ho.adds
    obtain ⟨a2', k2', e2⟩ := own_slice ho.rem
    obtain ⟨a3', k3', e3⟩ := own_slice ho.seals
    obtain ⟨a4', k4', e4⟩ := own_slice ho.joins
    obtain ⟨a5', k5', e5⟩ := own_slice ho.next.row
    have HX := hide (And.intro ho (And.intro (unhide B1).size (lt_of_blk (unhide kk1))))
    have kz := kept_b (unhide kk1) (lt_of_blk (unhide kk1)) b3
    have B2 := hide (bw_tr (unhide B1) b3)
    obtain ⟨av', rv', qv', jv', nv'⟩ := x'
    simp only at e1 e2 e3 e4 e5
    obtain ⟨h1, h2, h3, h4, h5⟩ := unhide HL
    rw [← h1] at e1
    rw [← h2] at e2
    rw [← h3] at e3
    rw [← h4] at e4
    rw [← h5] at e5
    subst e1 e2 e3 e4 e5
    clear ho b3 KC kk1 HL h1 h2 h3 h4 h5 B1 y0 y1 y2 y3 y4 y5 y6 y7 y8 y9 y10 y11 y12 y13 y14
    obtain ⟨WZ, hWZ⟩ : ∃ W, W = pokes wz w.heap.size 0 [.int .i64 g0, .int .i64 g1, .int .i64 g2, .int .i64 g3, .int .i64 g4, .bool g5, .slice a1' LA k1', .slice a2' LR k2', .slice a3' LQ k3', .slice a4' LJ k4', .int .i64 g10, .int .i64 g11, .slice a5' LN k5', .int .i64 g13, .int .i64 g14] := ⟨_, rfl⟩
    have z : WZ.heap[w.heap.size]? = some (.cells #[.int .i64 g0, .int .i64 g1, .int .i64 g2, .int .i64 g3, .int .i64 g4, .bool g5, .slice a1' LA k1', .slice a2' LR k2', .slice a3' LQ k3', .slice a4' LJ k4', .int .i64 g10, .int .i64 g11, .slice a5' LN k5', .int .i64 g13, .int .i64 g14] 34 (0, 0)) := by
      rw [hWZ, pokes_at _ _ _ _ kz, pk_all (by rfl)]
    have HB : Hid (Below w.heap.size w WZ) := by unfold Hid; rw [hWZ]; exact pokes_below (Nat.le_refl _) _ _ _ (unhide B2)
    have HZ : Hid (WZ = (((((((((((((((wz).setCell ⟨w.heap.size, 0, none⟩ (.int .i64 g0)).setCell ⟨w.heap.size, 1, none⟩ (.int .i64 g1)).setCell ⟨w.heap.size, 2, none⟩ (.int .i64 g2)).setCell ⟨w.heap.size, 3, none⟩ (.int .i64 g3)).setCell ⟨w.heap.size, 4, none⟩ (.int .i64 g4)).setCell ⟨w.heap.size, 5, none⟩ (.bool g5)).setCell ⟨w.heap.size, 6, none⟩ (.slice a1' LA k1')).setCell ⟨w.heap.size, 7, none⟩ (.slice a2' LR k2')).setCell ⟨w.heap.size, 8, none⟩ (.slice a3' LQ k3')).setCell ⟨w.heap.size, 9, none⟩ (.slice a4' LJ k4')).setCell ⟨w.heap.size, 10, none⟩ (.int .i64 g10)).setCell ⟨w.heap.size, 11, none⟩ (.int .i64 g11)).setCell ⟨w.heap.size, 12, none⟩ (.slice a5' LN k5')).setCell ⟨w.heap.size, 13, none⟩ (.int .i64 g13)).setCell ⟨w.heap.size, 14, none⟩ (.int .i64 g14)) := hWZ
    have fz := fun j => froz_b' (i := j) kz
    have s0 : wz.cell? ⟨w.heap.size, 0, none⟩ = some (.int .i64 0) := blk_c kz rfl
    have s1 : wz.cell? ⟨w.heap.size, 1, none⟩ = some (.int .i64 0) := blk_c kz rfl
    have s2 : wz.cell? ⟨w.heap.size, 2, none⟩ = some (.int .i64 0) := blk_c kz rfl
    have s3 : wz.cell? ⟨w.heap.size, 3, none⟩ = some (.int .i64 0) := blk_c kz rfl
    have s4 : wz.cell? ⟨w.heap.size, 4, none⟩ = some (.int .i64 0) := blk_c kz rfl
    have s5 : wz.cell? ⟨w.heap.size, 5, none⟩ = some (.bool false) := blk_c kz rfl
    have s6 : wz.cell? ⟨w.heap.size, 6, none⟩ = some (.slice none 0 0) := blk_c kz rfl
    have s7 : wz.cell? ⟨w.heap.size, 7, none⟩ = some (.slice none 0 0) := blk_c kz rfl
    have s8 : wz.cell? ⟨w.heap.size, 8, none⟩ = some (.slice none 0 0) := blk_c kz rfl
    have s9 : wz.cell? ⟨w.heap.size, 9, none⟩ = some (.slice none 0 0) := blk_c kz rfl
    have s10 : wz.cell? ⟨w.heap.size, 10, none⟩ = some (.int .i64 0) := blk_c kz rfl
    have s11 : wz.cell? ⟨w.heap.size, 11, none⟩ = some (.int .i64 0) := blk_c kz rfl
    have s12 : wz.cell? ⟨w.heap.size, 12, none⟩ = some (.slice none 0 0) := blk_c kz rfl
    have s13 : wz.cell? ⟨w.heap.size, 13, none⟩ = some (.int .i64 0) := blk_c kz rfl
    have s14 : wz.cell? ⟨w.heap.size, 14, none⟩ = some (.int .i64 0) := blk_c kz rfl
    have z0 : WZ.cell? ⟨w.heap.size, 0, none⟩ = some (.int .i64 g0) := blk_c z rfl
    have z1 : WZ.cell? ⟨w.heap.size, 1, none⟩ = some (.int .i64 g1) := blk_c z rfl
    have z2 : WZ.cell? ⟨w.heap.size, 2, none⟩ = some (.int .i64 g2) := blk_c z rfl
    have z3 : WZ.cell? ⟨w.heap.size, 3, none⟩ = some (.int .i64 g3) := blk_c z rfl
    have z4 : WZ.cell? ⟨w.heap.size, 4, none⟩ = some (.int .i64 g4) := blk_c z rfl
    have z5 : WZ.cell? ⟨w.heap.size, 5, none⟩ = some (.bool g5) := blk_c z rfl
    have z6 : WZ.cell? ⟨w.heap.size, 6, none⟩ = some (.slice a1' LA k1') := blk_c z rfl
    have z7 : WZ.cell? ⟨w.heap.size, 7, none⟩ = some (.slice a2' LR k2') := blk_c z rfl
    have z8 : WZ.cell? ⟨w.heap.size, 8, none⟩ = some (.slice a3' LQ k3') := blk_c z rfl
    have z9 : WZ.cell? ⟨w.heap.size, 9, none⟩ = some (.slice a4' LJ k4') := blk_c z rfl
    have z10 : WZ.cell? ⟨w.heap.size, 10, none⟩ = some (.int .i64 g10) := blk_c z rfl
    have z11 : WZ.cell? ⟨w.heap.size, 11, none⟩ = some (.int .i64 g11) := blk_c z rfl
    have z12 : WZ.cell? ⟨w.heap.size, 12, none⟩ = some (.slice a5' LN k5') := blk_c z rfl
    have z13 : WZ.cell? ⟨w.heap.size, 13, none⟩ = some (.int .i64 g13) := blk_c z rfl
    have z14 : WZ.cell? ⟨w.heap.size, 14, none⟩ = some (.int .i64 g14) := blk_c z rfl
    have HO : Hid (OC w.heap.size WZ ⟨g0, g1, g2, g3, g4, g5, adds, rem, seals, joins, g10, g11, next, g13, g14⟩ ⟨.slice a1' LA k1', .slice a2' LR k2', .slice a3' LQ k3', .slice a4' LJ k4', .slice a5' LN k5'⟩ us) := by
      have hq := (unhide HX)
      refine (OC.keep hq.1 (fun k hk => ?_)).mono hq.2.1
      rw [hWZ]
      exact pokes_other (by have := (OC.lt hq.1 k hk).1; have := hq.2.2; omega) _ _ _
    clear hWZ z kz B2 HX
    go_wp2_with fail
    rw [← unhide HZ]
    exact bodyPost_ret (v := .tuple #[.agg #[.int .i64 g0, .int .i64 g1, .int .i64 g2, .int .i64 g3, .int .i64 g4, .bool g5, .slice a1' LA k1', .slice a2' LR k2', .slice a3' LQ k3', .slice a4' LJ k4', .int .i64 g10, .int .i64 g11, .slice a5' LN k5', .int .i64 g13, .int .i64 g14], .bool true]) (by simp [results, Tryz.results8, go_sem, z0, z1, z2, z3, z4, z5, z6, z7, z8, z9, z10, z11, z12, z13, z14]) rfl ⟨⟨.slice a1' LA k1', .slice a2' LR k2', .slice a3' LQ k3', .slice a4' LJ k4', .slice a5' LN k5'⟩, us, rfl, unhide HO, unhide HB⟩
  · rw [decide_eq_false hin]
    have hot : ot = none := by
      by_cases q : e < 0
      · exact (unhide HOT).2 q
      · rw [(unhide HOT).1 (by omega)]; exact List.getElem?_eq_none (by have := (unhide HS).2; omega)
    subst hot
    have kz := kept_b (unhide HK).1 (lt_of_blk (unhide HK).1) (unhide HB1)
    have B2 := hide (bw_tr (unhide HK).2 (unhide HB1))
    obtain ⟨wz, hwz⟩ : ∃ z, z = w1 := ⟨_, rfl⟩
    rw [← hwz] at kz B2 ⊢
    clear hwz HOT HS HCM HB1 HK hin
    obtain ⟨WZ, hWZ⟩ : ∃ W, W = pokes wz w.heap.size 0 [.int .i64 0, .int .i64 0, .int .i64 0, .int .i64 0, .int .i64 0, .bool false, .slice none 0 0, .slice none 0 0, .slice none 0 0, .slice none 0 0, .int .i64 0, .int .i64 0, .slice none 0 0, .int .i64 0, .int .i64 0] := ⟨_, rfl⟩
    have z : WZ.heap[w.heap.size]? = some (.cells #[.int .i64 0, .int .i64 0, .int .i64 0, .int .i64 0, .int .i64 0, .bool false, .slice none 0 0, .slice none 0 0, .slice none 0 0, .slice none 0 0, .int .i64 0, .int .i64 0, .slice none 0 0, .int .i64 0, .int .i64 0] 34 (0, 0)) := by
      rw [hWZ, pokes_at _ _ _ _ kz, pk_all (by rfl)]
    have HB : Hid (Below w.heap.size w WZ) := by unfold Hid; rw [hWZ]; exact pokes_below (Nat.le_refl _) _ _ _ (unhide B2)
    have HZ : Hid (WZ = (((((((((((((((wz).setCell ⟨w.heap.size, 0, none⟩ (.int .i64 0)).setCell ⟨w.heap.size, 1, none⟩ (.int .i64 0)).setCell ⟨w.heap.size, 2, none⟩ (.int .i64 0)).setCell ⟨w.heap.size, 3, none⟩ (.int .i64 0)).setCell ⟨w.heap.size, 4, none⟩ (.int .i64 0)).setCell ⟨w.heap.size, 5, none⟩ (.bool false)).setCell ⟨w.heap.size, 6, none⟩ (.slice none 0 0)).setCell ⟨w.heap.size, 7, none⟩ (.slice none 0 0)).setCell ⟨w.heap.size, 8, none⟩ (.slice none 0 0)).setCell ⟨w.heap.size, 9, none⟩ (.slice none 0 0)).setCell ⟨w.heap.size, 10, none⟩ (.int .i64 0)).setCell ⟨w.heap.size, 11, none⟩ (.int .i64 0)).setCell ⟨w.heap.size, 12, none⟩ (.slice none 0 0)).setCell ⟨w.heap.size, 13, none⟩ (.int .i64 0)).setCell ⟨w.heap.size, 14, none⟩ (.int .i64 0)) := hWZ
    have fz := fun j => froz_b' (i := j) kz
    have s0 : wz.cell? ⟨w.heap.size, 0, none⟩ = some (.int .i64 0) := blk_c kz rfl
    have s1 : wz.cell? ⟨w.heap.size, 1, none⟩ = some (.int .i64 0) := blk_c kz rfl
    have s2 : wz.cell? ⟨w.heap.size, 2, none⟩ = some (.int .i64 0) := blk_c kz rfl
    have s3 : wz.cell? ⟨w.heap.size, 3, none⟩ = some (.int .i64 0) := blk_c kz rfl
    have s4 : wz.cell? ⟨w.heap.size, 4, none⟩ = some (.int .i64 0) := blk_c kz rfl
    have s5 : wz.cell? ⟨w.heap.size, 5, none⟩ = some (.bool false) := blk_c kz rfl
    have s6 : wz.cell? ⟨w.heap.size, 6, none⟩ = some (.slice none 0 0) := blk_c kz rfl
    have s7 : wz.cell? ⟨w.heap.size, 7, none⟩ = some (.slice none 0 0) := blk_c kz rfl
    have s8 : wz.cell? ⟨w.heap.size, 8, none⟩ = some (.slice none 0 0) := blk_c kz rfl
    have s9 : wz.cell? ⟨w.heap.size, 9, none⟩ = some (.slice none 0 0) := blk_c kz rfl
    have s10 : wz.cell? ⟨w.heap.size, 10, none⟩ = some (.int .i64 0) := blk_c kz rfl
    have s11 : wz.cell? ⟨w.heap.size, 11, none⟩ = some (.int .i64 0) := blk_c kz rfl
    have s12 : wz.cell? ⟨w.heap.size, 12, none⟩ = some (.slice none 0 0) := blk_c kz rfl
    have s13 : wz.cell? ⟨w.heap.size, 13, none⟩ = some (.int .i64 0) := blk_c kz rfl
    have s14 : wz.cell? ⟨w.heap.size, 14, none⟩ = some (.int .i64 0) := blk_c kz rfl
    have z0 : WZ.cell? ⟨w.heap.size, 0, none⟩ = some (.int .i64 0) := blk_c z rfl
    have z1 : WZ.cell? ⟨w.heap.size, 1, none⟩ = some (.int .i64 0) := blk_c z rfl
    have z2 : WZ.cell? ⟨w.heap.size, 2, none⟩ = some (.int .i64 0) := blk_c z rfl
    have z3 : WZ.cell? ⟨w.heap.size, 3, none⟩ = some (.int .i64 0) := blk_c z rfl
    have z4 : WZ.cell? ⟨w.heap.size, 4, none⟩ = some (.int .i64 0) := blk_c z rfl
    have z5 : WZ.cell? ⟨w.heap.size, 5, none⟩ = some (.bool false) := blk_c z rfl
    have z6 : WZ.cell? ⟨w.heap.size, 6, none⟩ = some (.slice none 0 0) := blk_c z rfl
    have z7 : WZ.cell? ⟨w.heap.size, 7, none⟩ = some (.slice none 0 0) := blk_c z rfl
    have z8 : WZ.cell? ⟨w.heap.size, 8, none⟩ = some (.slice none 0 0) := blk_c z rfl
    have z9 : WZ.cell? ⟨w.heap.size, 9, none⟩ = some (.slice none 0 0) := blk_c z rfl
    have z10 : WZ.cell? ⟨w.heap.size, 10, none⟩ = some (.int .i64 0) := blk_c z rfl
    have z11 : WZ.cell? ⟨w.heap.size, 11, none⟩ = some (.int .i64 0) := blk_c z rfl
    have z12 : WZ.cell? ⟨w.heap.size, 12, none⟩ = some (.slice none 0 0) := blk_c z rfl
    have z13 : WZ.cell? ⟨w.heap.size, 13, none⟩ = some (.int .i64 0) := blk_c z rfl
    have z14 : WZ.cell? ⟨w.heap.size, 14, none⟩ = some (.int .i64 0) := blk_c z rfl
    clear hWZ z kz B2
    go_wp2_with fail
    rw [← unhide HZ]
    exact bodyPost_ret (v := .tuple #[.agg #[.int .i64 0, .int .i64 0, .int .i64 0, .int .i64 0, .int .i64 0, .bool false, .slice none 0 0, .slice none 0 0, .slice none 0 0, .slice none 0 0, .int .i64 0, .int .i64 0, .slice none 0 0, .int .i64 0, .int .i64 0], .bool false]) (by simp [results, Tryz.results8, go_sem, z0, z1, z2, z3, z4, z5, z6, z7, z8, z9, z10, z11, z12, z13, z14]) rfl ⟨cv00, [], rfl, oc00 _ _, unhide HB⟩
end Go.Proofs.YtnfhbmlmemifjaaGreatDoor

/- Last of package ledger. -/
namespace Go.Proofs.YtnfhbmlmemifjaaGreatDoor
open Go.RowKit Go.Maps
set_option maxRecDepth 100000 in
set_option maxHeartbeats 8000000 in
theorem lgLast_any {w : World} {v : Value} {l : List Lg} (h : Lgs w v l) (hs : SmL l) (hT : Tab w) (g : Int) :
    Calls Tryz.prog 9 #[v, .int .i64 g] w fun r w' => ∃ x us, r = .returned (.tuple #[cmV ((getL l g ((lenL l g : Int) - 1)).getD cm00) x, .bool (getL l g ((lenL l g : Int) - 1)).isSome]) ∧ OC w.heap.size w' ((getL l g ((lenL l g : Int) - 1)).getD cm00) x us ∧ Below w.heap.size w w' := by
  obtain ⟨w0, hw0⟩ : ∃ w0, w0 = w.alloc (.cells cm0 34) := ⟨_, rfl⟩
  have bl : Below w.heap.size w w0 := by rw [hw0]; exact bwA _ _
  have kk : w0.heap[w.heap.size]? = some (.cells cm0 34 (0, 0)) := by rw [hw0]; exact heap_alloc_new _ _
  have K1 := hide (commits_any h bl hs (hT.bw bl) g)
  have hsm := cmsL_sm hs g
  have hlen := cmsL_len l g
  obtain ⟨L, hL⟩ : ∃ z, z = lenL l g := ⟨_, rfl⟩
  obtain ⟨cs, hcs⟩ : ∃ z, z = cmsL l g := ⟨_, rfl⟩
  rw [← hL]
  obtain ⟨ot, hot⟩ : ∃ z, z = getL l g ((L : Int) - 1) := ⟨_, rfl⟩
  rw [← hL, ← hcs] at K1
  rw [← hcs] at hsm
  rw [← hcs, ← hL] at hlen
  rw [← hot]
  have hLb : L ≤ 1073741824 := by rw [← hlen]; exact hsm.n
  have HOT : Hid ((0 < L → ot = cs[L - 1]?) ∧ (L = 0 → ot = none)) := ⟨fun q => by rw [hot, hcs, getL_cms l g (by omega)]; congr 1; omega, fun q => by rw [hot]; exact getL_neg l g (by omega)⟩
  obtain ⟨a, cap, rfl⟩ := h.slice
  generalize l.length = N at *
  have HW : Hid (w0 = w.alloc (.cells #[.int .i64 0, .int .i64 0, .int .i64 0, .int .i64 0, .int .i64 0, .bool false, .slice none 0 0, .slice none 0 0, .slice none 0 0, .slice none 0 0, .int .i64 0, .int .i64 0, .slice none 0 0, .int .i64 0, .int .i64 0] 34)) := hw0
  have HK := hide (And.intro kk bl)
  have HS := hide (And.intro hsm hlen)
  have hLI : (L : Int) ≤ 1073741824 := by omega
  clear h hw0 bl kk hL hot hs hT hcs hsm hlen
  rcases Nat.eq_zero_or_pos L with hz | hz
  · subst hz
    go_enter Tryz.func9, Tryz.ntmps9
    go_upto_region 1 with fail
    rw [← unhide HW]
    clear HW
    go_wp2_with fail
    refine (unhide K1).mono ?_
    rintro y wz ⟨a9, c9, rfl, hcm, b1⟩
    have hot : ot = none := (unhide HOT).2 (by trivial)
    subst hot
    have kz := kept_b (unhide HK).1 (lt_of_blk (unhide HK).1) b1
    have B2 := hide (bw_tr (unhide HK).2 b1)
    clear HOT HS hcm b1 HK K1
    obtain ⟨WZ, hWZ⟩ : ∃ W, W = pokes wz w.heap.size 0 [.int .i64 0, .int .i64 0, .int .i64 0, .int .i64 0, .int .i64 0, .bool false, .slice none 0 0, .slice none 0 0, .slice none 0 0, .slice none 0 0, .int .i64 0, .int .i64 0, .slice none 0 0, .int .i64 0, .int .i64 0] := ⟨_, rfl⟩
    have z : WZ.heap[w.heap.size]? = some (.cells #[.int .i64 0, .int .i64 0, .int .i64 0, .int .i64 0, .int .i64 0, .bool false, .slice none 0 0, .slice none 0 0, .slice none 0 0, .slice none 0 0, .int .i64 0, .int .i64 0, .slice none 0 0, .int .i64 0, .int .i64 0] 34 (0, 0)) := by
      rw [hWZ, pokes_at _ _ _ _ kz, pk_all (by rfl)]
    have HB : Hid (Below w.heap.size w WZ) := by unfold Hid; rw [hWZ]; exact pokes_below (Nat.le_refl _) _ _ _ (unhide B2)
    have HZ : Hid (WZ = (((((((((((((((wz).setCell ⟨w.heap.size, 0, none⟩ (.int .i64 0)).setCell ⟨w.heap.size, 1, none⟩ (.int .i64 0)).setCell ⟨w.heap.size, 2, none⟩ (.int .i64 0)).setCell ⟨w.heap.size, 3, none⟩ (.int .i64 0)).setCell ⟨w.heap.size, 4, none⟩ (.int .i64 0)).setCell ⟨w.heap.size, 5, none⟩ (.bool false)).setCell ⟨w.heap.size, 6, none⟩ (.slice none 0 0)).setCell ⟨w.heap.size, 7, none⟩ (.slice none 0 0)).setCell ⟨w.heap.size, 8, none⟩ (.slice none 0 0)).setCell ⟨w.heap.size, 9, none⟩ (.slice none 0 0)).setCell ⟨w.heap.size, 10, none⟩ (.int .i64 0)).setCell ⟨w.heap.size, 11, none⟩ (.int .i64 0)).setCell ⟨w.heap.size, 12, none⟩ (.slice none 0 0)).setCell ⟨w.heap.size, 13, none⟩ (.int .i64 0)).setCell ⟨w.heap.size, 14, none⟩ (.int .i64 0)) := hWZ
    have fz := fun j => froz_b' (i := j) kz
    have s0 : wz.cell? ⟨w.heap.size, 0, none⟩ = some (.int .i64 0) := blk_c kz rfl
    have s1 : wz.cell? ⟨w.heap.size, 1, none⟩ = some (.int .i64 0) := blk_c kz rfl
    have s2 : wz.cell? ⟨w.heap.size, 2, none⟩ = some (.int .i64 0) := blk_c kz rfl
    have s3 : wz.cell? ⟨w.heap.size, 3, none⟩ = some (.int .i64 0) := blk_c kz rfl
    have s4 : wz.cell? ⟨w.heap.size, 4, none⟩ = some (.int .i64 0) := blk_c kz rfl
    have s5 : wz.cell? ⟨w.heap.size, 5, none⟩ = some (.bool false) := blk_c kz rfl
    have s6 : wz.cell? ⟨w.heap.size, 6, none⟩ = some (.slice none 0 0) := blk_c kz rfl
    have s7 : wz.cell? ⟨w.heap.size, 7, none⟩ = some (.slice none 0 0) := blk_c kz rfl
    have s8 : wz.cell? ⟨w.heap.size, 8, none⟩ = some (.slice none 0 0) := blk_c kz rfl
    have s9 : wz.cell? ⟨w.heap.size, 9, none⟩ = some (.slice none 0 0) := blk_c kz rfl
    have s10 : wz.cell? ⟨w.heap.size, 10, none⟩ = some (.int .i64 0) := blk_c kz rfl
    have s11 : wz.cell? ⟨w.heap.size, 11, none⟩ = some (.int .i64 0) := blk_c kz rfl
    have s12 : wz.cell? ⟨w.heap.size, 12, none⟩ = some (.slice none 0 0) := blk_c kz rfl
    have s13 : wz.cell? ⟨w.heap.size, 13, none⟩ = some (.int .i64 0) := blk_c kz rfl
    have s14 : wz.cell? ⟨w.heap.size, 14, none⟩ = some (.int .i64 0) := blk_c kz rfl
    have z0 : WZ.cell? ⟨w.heap.size, 0, none⟩ = some (.int .i64 0) := blk_c z rfl
    have z1 : WZ.cell? ⟨w.heap.size, 1, none⟩ = some (.int .i64 0) := blk_c z rfl
    have z2 : WZ.cell? ⟨w.heap.size, 2, none⟩ = some (.int .i64 0) := blk_c z rfl
    have z3 : WZ.cell? ⟨w.heap.size, 3, none⟩ = some (.int .i64 0) := blk_c z rfl
    have z4 : WZ.cell? ⟨w.heap.size, 4, none⟩ = some (.int .i64 0) := blk_c z rfl
    have z5 : WZ.cell? ⟨w.heap.size, 5, none⟩ = some (.bool false) := blk_c z rfl
    have z6 : WZ.cell? ⟨w.heap.size, 6, none⟩ = some (.slice none 0 0) := blk_c z rfl
    have z7 : WZ.cell? ⟨w.heap.size, 7, none⟩ = some (.slice none 0 0) := blk_c z rfl
    have z8 : WZ.cell? ⟨w.heap.size, 8, none⟩ = some (.slice none 0 0) := blk_c z rfl
    have z9 : WZ.cell? ⟨w.heap.size, 9, none⟩ = some (.slice none 0 0) := blk_c z rfl
    have z10 : WZ.cell? ⟨w.heap.size, 10, none⟩ = some (.int .i64 0) := blk_c z rfl
    have z11 : WZ.cell? ⟨w.heap.size, 11, none⟩ = some (.int .i64 0) := blk_c z rfl
    have z12 : WZ.cell? ⟨w.heap.size, 12, none⟩ = some (.slice none 0 0) := blk_c z rfl
    have z13 : WZ.cell? ⟨w.heap.size, 13, none⟩ = some (.int .i64 0) := blk_c z rfl
    have z14 : WZ.cell? ⟨w.heap.size, 14, none⟩ = some (.int .i64 0) := blk_c z rfl
    clear hWZ z kz B2
    go_wp2_with fail
    rw [← unhide HZ]
    exact bodyPost_ret (v := .tuple #[.agg #[.int .i64 0, .int .i64 0, .int .i64 0, .int .i64 0, .int .i64 0, .bool false, .slice none 0 0, .slice none 0 0, .slice none 0 0, .slice none 0 0, .int .i64 0, .int .i64 0, .slice none 0 0, .int .i64 0, .int .i64 0], .bool false]) (by simp [results, Tryz.results9, go_sem, z0, z1, z2, z3, z4, z5, z6, z7, z8, z9, z10, z11, z12, z13, z14]) rfl ⟨cv00, [], rfl, oc00 _ _, unhide HB⟩
  · obtain ⟨idx, hidx⟩ : ∃ n, n = L - 1 := ⟨_, rfl⟩
    have v1 : (L : Int) - 1 = (idx : Int) := by omega
    have q0 : (0 : Int) ≤ (idx : Int) := by omega
    have q1 : (idx : Int) < (L : Int) := by omega
    have q3 : ¬ (L : Int) = 0 := by omega
    have q4 : IntKind.i64.wrap (idx : Int) = (idx : Int) := by rw [IntKind.wrap_i64]; omega
    have q6 : ¬ L = 0 := by omega
    have HI := hide (And.intro hidx hz)
    clear hidx hz
    go_enter Tryz.func9, Tryz.ntmps9
    go_upto_region 1 with fail
    rw [← unhide HW]
    clear HW
    go_wp2_with fail
    refine (unhide K1).mono ?_
    rintro y w1 ⟨a9, c9, rfl, hcm, b1⟩
    have HG : Hid (idx < cs.length ∧ ot = cs[idx]? ∧ SmG (g, cs) ∧ True) := ⟨by have := (unhide HS).2; have := unhide HI; omega, by have := (unhide HOT).1 (unhide HI).2; rw [← (unhide HI).1] at this; exact this, (unhide HS).1, trivial⟩
    have bl := (unhide HK).2
    clear HOT HS K1 HI
    obtain ⟨c, hc⟩ : ∃ c, cs[idx]? = some c := ⟨_, List.getElem?_eq_getElem (by have := (unhide HG).1; omega)⟩
    have hot : ot = some c := by rw [(unhide HG).2.1]; exact hc
    have hsc : SmC c := (unhide HG).2.2.1.c c (List.mem_of_getElem? hc)
    obtain ⟨b', o', ea, x, hx, hcc⟩ := hcm.get hc
    subst ea
    have KC := hide (frCommit_any (hx.bw (bw_tr bl b1)) hsc)
    have bw1 := bw_tr bl b1
    have B1 := hide bw1
    subst hot
    have kk1 := hide (kept_b (unhide HK).1 (lt_of_blk (unhide HK).1) b1)
    have hcc' : ∀ j u, (cmC c x)[j]? = some u → w1.cell? ⟨b', o' + idx * 15 + j, none⟩ = some u := fun j u hu => by have := hcc j u hu; rw [bw1.cell (lt_of_cell this)]; exact this
    obtain ⟨a1, k1, x1⟩ := hx.adds.slice
    obtain ⟨a2, k2, x2⟩ := nums_slice hx.rem
    obtain ⟨a3, k3, x3⟩ := hx.seals.slice
    obtain ⟨a4, k4, x4⟩ := hx.joins.slice
    obtain ⟨a5, k5, x5⟩ := hx.next.slice
    clear hc hsc hx hcc HG b1 bw1 hcm
    obtain ⟨g0, g1, g2, g3, g4, g5, adds, rem, seals, joins, g10, g11, next, g13, g14⟩ := c
    obtain ⟨av, rv, qv, jv, nv⟩ := x
    simp only at x1 x2 x3 x4 x5
    subst x1 x2 x3 x4 x5
    obtain ⟨LA, hA⟩ : ∃ z, z = adds.length := ⟨_, rfl⟩
    obtain ⟨LR, hR⟩ : ∃ z, z = rem.length := ⟨_, rfl⟩
    obtain ⟨LQ, hQ⟩ : ∃ z, z = seals.length := ⟨_, rfl⟩
    obtain ⟨LJ, hJ⟩ : ∃ z, z = joins.length := ⟨_, rfl⟩
    obtain ⟨LN, hNn⟩ : ∃ z, z = next.length := ⟨_, rfl⟩
    have HL := hide (And.intro hA (And.intro hR (And.intro hQ (And.intro hJ hNn))))
    rw [← hA, ← hR, ← hQ, ← hJ, ← hNn] at KC hcc'
    clear hA hR hQ hJ hNn
    unfold cmV cmC at KC
    simp only at KC
    have y0 : w1.cell? ⟨b', o' + idx * 15, none⟩ = some (.int .i64 g0) := hcc' 0 _ rfl
    have y1 : w1.cell? ⟨b', o' + idx * 15 + 1, none⟩ = some (.int .i64 g1) := hcc' 1 _ rfl
    have y2 : w1.cell? ⟨b', o' + idx * 15 + 2, none⟩ = some (.int .i64 g2) := hcc' 2 _ rfl
    have y3 : w1.cell? ⟨b', o' + idx * 15 + 3, none⟩ = some (.int .i64 g3) := hcc' 3 _ rfl
    have y4 : w1.cell? ⟨b', o' + idx * 15 + 4, none⟩ = some (.int .i64 g4) := hcc' 4 _ rfl
    have y5 : w1.cell? ⟨b', o' + idx * 15 + 5, none⟩ = some (.bool g5) := hcc' 5 _ rfl
    have y6 : w1.cell? ⟨b', o' + idx * 15 + 6, none⟩ = some (.slice a1 LA k1) := hcc' 6 _ rfl
    have y7 : w1.cell? ⟨b', o' + idx * 15 + 7, none⟩ = some (.slice a2 LR k2) := hcc' 7 _ rfl
    have y8 : w1.cell? ⟨b', o' + idx * 15 + 8, none⟩ = some (.slice a3 LQ k3) := hcc' 8 _ rfl
    have y9 : w1.cell? ⟨b', o' + idx * 15 + 9, none⟩ = some (.slice a4 LJ k4) := hcc' 9 _ rfl
    have y10 : w1.cell? ⟨b', o' + idx * 15 + 10, none⟩ = some (.int .i64 g10) := hcc' 10 _ rfl
    have y11 : w1.cell? ⟨b', o' + idx * 15 + 11, none⟩ = some (.int .i64 g11) := hcc' 11 _ rfl
    have y12 : w1.cell? ⟨b', o' + idx * 15 + 12, none⟩ = some (.slice a5 LN k5) := hcc' 12 _ rfl
    have y13 : w1.cell? ⟨b', o' + idx * 15 + 13, none⟩ = some (.int .i64 g13) := hcc' 13 _ rfl
    have y14 : w1.cell? ⟨b', o' + idx * 15 + 14, none⟩ = some (.int .i64 g14) := hcc' 14 _ rfl
    clear hcc'
    go_wp2_with fail
    refine (unhide KC).mono ?_
    rintro y wz ⟨x', us, rfl, ho, b3⟩
    obtain ⟨a1', k1', e1⟩ := own_slice ho.adds
    obtain ⟨a2', k2', e2⟩ := own_slice ho.rem
    obtain ⟨a3', k3', e3⟩ := own_slice ho.seals
    obtain ⟨a4', k4', e4⟩ := own_slice ho.joins
    obtain ⟨a5', k5', e5⟩ := own_slice ho.next.row
    have HX := hide (And.intro ho (And.intro (unhide B1).size (lt_of_blk (unhide kk1))))
    have kz := kept_b (unhide kk1) (lt_of_blk (unhide kk1)) b3
    have B2 := hide (bw_tr (unhide B1) b3)
    obtain ⟨av', rv', qv', jv', nv'⟩ := x'
    simp only at e1 e2 e3 e4 e5
    obtain ⟨h1, h2, h3, h4, h5⟩ := unhide HL
    rw [← h1] at e1
    rw [← h2] at e2
    rw [← h3] at e3
    rw [← h4] at e4
    rw [← h5] at e5
    subst e1 e2 e3 e4 e5
    clear ho b3 KC kk1 HL h1 h2 h3 h4 h5 B1 y0 y1 y2 y3 y4 y5 y6 y7 y8 y9 y10 y11 y12 y13 y14
    obtain ⟨WZ, hWZ⟩ : ∃ W, W = pokes wz w.heap.size 0 [.int .i64 g0, .int .i64 g1, .int .i64 g2, .int .i64 g3, .int .i64 g4, .bool g5, .slice a1' LA k1', .slice a2' LR k2', .slice a3' LQ k3', .slice a4' LJ k4', .int .i64 g10, .int .i64 g11, .slice a5' LN k5', .int .i64 g13, .int .i64 g14] := ⟨_, rfl⟩
    have z : WZ.heap[w.heap.size]? = some (.cells #[.int .i64 g0, .int .i64 g1, .int .i64 g2, .int .i64 g3, .int .i64 g4, .bool g5, .slice a1' LA k1', .slice a2' LR k2', .slice a3' LQ k3', .slice a4' LJ k4', .int .i64 g10, .int .i64 g11, .slice a5' LN k5', .int .i64 g13, .int .i64 g14] 34 (0, 0)) := by
      rw [hWZ, pokes_at _ _ _ _ kz, pk_all (by rfl)]
    have HB : Hid (Below w.heap.size w WZ) := by unfold Hid; rw [hWZ]; exact pokes_below (Nat.le_refl _) _ _ _ (unhide B2)
    have HZ : Hid (WZ = (((((((((((((((wz).setCell ⟨w.heap.size, 0, none⟩ (.int .i64 g0)).setCell ⟨w.heap.size, 1, none⟩ (.int .i64 g1)).setCell ⟨w.heap.size, 2, none⟩ (.int .i64 g2)).setCell ⟨w.heap.size, 3, none⟩ (.int .i64 g3)).setCell ⟨w.heap.size, 4, none⟩ (.int .i64 g4)).setCell ⟨w.heap.size, 5, none⟩ (.bool g5)).setCell ⟨w.heap.size, 6, none⟩ (.slice a1' LA k1')).setCell ⟨w.heap.size, 7, none⟩ (.slice a2' LR k2')).setCell ⟨w.heap.size, 8, none⟩ (.slice a3' LQ k3')).setCell ⟨w.heap.size, 9, none⟩ (.slice a4' LJ k4')).setCell ⟨w.heap.size, 10, none⟩ (.int .i64 g10)).setCell ⟨w.heap.size, 11, none⟩ (.int .i64 g11)).setCell ⟨w.heap.size, 12, none⟩ (.slice a5' LN k5')).setCell ⟨w.heap.size, 13, none⟩ (.int .i64 g13)).setCell ⟨w.heap.size, 14, none⟩ (.int .i64 g14)) := hWZ
    have fz := fun j => froz_b' (i := j) kz
    have s0 : wz.cell? ⟨w.heap.size, 0, none⟩ = some (.int .i64 0) := blk_c kz rfl
    have s1 : wz.cell? ⟨w.heap.size, 1, none⟩ = some (.int .i64 0) := blk_c kz rfl
    have s2 : wz.cell? ⟨w.heap.size, 2, none⟩ = some (.int .i64 0) := blk_c kz rfl
    have s3 : wz.cell? ⟨w.heap.size, 3, none⟩ = some (.int .i64 0) := blk_c kz rfl
    have s4 : wz.cell? ⟨w.heap.size, 4, none⟩ = some (.int .i64 0) := blk_c kz rfl
    have s5 : wz.cell? ⟨w.heap.size, 5, none⟩ = some (.bool false) := blk_c kz rfl
    have s6 : wz.cell? ⟨w.heap.size, 6, none⟩ = some (.slice none 0 0) := blk_c kz rfl
    have s7 : wz.cell? ⟨w.heap.size, 7, none⟩ = some (.slice none 0 0) := blk_c kz rfl
    have s8 : wz.cell? ⟨w.heap.size, 8, none⟩ = some (.slice none 0 0) := blk_c kz rfl
    have s9 : wz.cell? ⟨w.heap.size, 9, none⟩ = some (.slice none 0 0) := blk_c kz rfl
    have s10 : wz.cell? ⟨w.heap.size, 10, none⟩ = some (.int .i64 0) := blk_c kz rfl
    have s11 : wz.cell? ⟨w.heap.size, 11, none⟩ = some (.int .i64 0) := blk_c kz rfl
    have s12 : wz.cell? ⟨w.heap.size, 12, none⟩ = some (.slice none 0 0) := blk_c kz rfl
    have s13 : wz.cell? ⟨w.heap.size, 13, none⟩ = some (.int .i64 0) := blk_c kz rfl
    have s14 : wz.cell? ⟨w.heap.size, 14, none⟩ = some (.int .i64 0) := blk_c kz rfl
    have z0 : WZ.cell? ⟨w.heap.size, 0, none⟩ = some (.int .i64 g0) := blk_c z rfl
    have z1 : WZ.cell? ⟨w.heap.size, 1, none⟩ = some (.int .i64 g1) := blk_c z rfl
    have z2 : WZ.cell? ⟨w.heap.size, 2, none⟩ = some (.int .i64 g2) := blk_c z rfl
    have z3 : WZ.cell? ⟨w.heap.size, 3, none⟩ = some (.int .i64 g3) := blk_c z rfl
    have z4 : WZ.cell? ⟨w.heap.size, 4, none⟩ = some (.int .i64 g4) := blk_c z rfl
    have z5 : WZ.cell? ⟨w.heap.size, 5, none⟩ = some (.bool g5) := blk_c z rfl
    have z6 : WZ.cell? ⟨w.heap.size, 6, none⟩ = some (.slice a1' LA k1') := blk_c z rfl
    have z7 : WZ.cell? ⟨w.heap.size, 7, none⟩ = some (.slice a2' LR k2') := blk_c z rfl
    have z8 : WZ.cell? ⟨w.heap.size, 8, none⟩ = some (.slice a3' LQ k3') := blk_c z rfl
    have z9 : WZ.cell? ⟨w.heap.size, 9, none⟩ = some (.slice a4' LJ k4') := blk_c z rfl
    have z10 : WZ.cell? ⟨w.heap.size, 10, none⟩ = some (.int .i64 g10) := blk_c z rfl
    have z11 : WZ.cell? ⟨w.heap.size, 11, none⟩ = some (.int .i64 g11) := blk_c z rfl
    have z12 : WZ.cell? ⟨w.heap.size, 12, none⟩ = some (.slice a5' LN k5') := blk_c z rfl
    have z13 : WZ.cell? ⟨w.heap.size, 13, none⟩ = some (.int .i64 g13) := blk_c z rfl
    have z14 : WZ.cell? ⟨w.heap.size, 14, none⟩ = some (.int .i64 g14) := blk_c z rfl
    have HO : Hid (OC w.heap.size WZ ⟨g0, g1, g2, g3, g4, g5, adds, rem, seals, joins, g10, g11, next, g13, g14⟩ ⟨.slice a1' LA k1', .slice a2' LR k2', .slice a3' LQ k3', .slice a4' LJ k4', .slice a5' LN k5'⟩ us) := by
      have hq := (unhide HX)
      refine (OC.keep hq.1 (fun k hk => ?_)).mono hq.2.1
      rw [hWZ]
      exact pokes_other (by have := (OC.lt hq.1 k hk).1; have := hq.2.2; omega) _ _ _
    clear hWZ z kz B2 HX
    go_wp2_with fail
    rw [← unhide HZ]
    exact bodyPost_ret (v := .tuple #[.agg #[.int .i64 g0, .int .i64 g1, .int .i64 g2, .int .i64 g3, .int .i64 g4, .bool g5, .slice a1' LA k1', .slice a2' LR k2', .slice a3' LQ k3', .slice a4' LJ k4', .int .i64 g10, .int .i64 g11, .slice a5' LN k5', .int .i64 g13, .int .i64 g14], .bool true]) (by simp [results, Tryz.results9, go_sem, z0, z1, z2, z3, z4, z5, z6, z7, z8, z9, z10, z11, z12, z13, z14]) rfl ⟨⟨.slice a1' LA k1', .slice a2' LR k2', .slice a3' LQ k3', .slice a4' LJ k4', .slice a5' LN k5'⟩, us, rfl, unhide HO, unhide HB⟩
end Go.Proofs.YtnfhbmlmemifjaaGreatDoor
