/- The walk of StoreWhole. -/
import Derived.Test.YtckddmdgmjekdaaGreatStQ
namespace Go.Proofs.YtckddmdgmjekdaaGreat
open Go.RowKit Go.Maps

theorem good_cut {S : DS} {n : Nat} {t : ByteArray} (h : Good S n t) (c : Option (Nat × Int)) : Good { S with cut := c } n t := h.old h.up rfl h.sn (fun _ _ => rfl)
theorem good_crash {S : DS} {n : Nat} {t : ByteArray} (h : Good S n t) (bits : Int) : Good (S.fall bits).again n t := h.old rfl rfl rfl (fun k _ => by show fl bits 0 S.base (S.since.take 31) k = _; rw [h.sn]; rfl)
theorem es_keep {w W W' : World} {d : Nat} {S : DS} {sb n : Nat} {t : ByteArray} {m : MM} {dn lost : Bool} {rs : List Res} (h : ES w W d S sb n t m dn lost rs) {v : Value} {l : List PP} (hQ : QRow W W' v l) : ES w W' d S sb n t m dn lost (resP v l :: rs) := by
  obtain ⟨jb, mb, E⟩ := h
  have h1 := E.addR (resP v l) hQ.bel hQ.row (fun k hk => hQ.new k (by simpa [resP] using hk))
  exact ⟨jb, mb, h1.perm ((List.Perm.swap _ _ _).trans (List.Perm.cons _ ((List.Perm.swap _ _ _).trans (List.Perm.cons _ (List.Perm.swap _ _ _)))))⟩
/-- The row that was there before, beside a Store. -/
theorem rowB {w W : World} {d : Nat} {S : DS} {sb n : Nat} {t : ByteArray} {m m1 : MM} {dn lost : Bool} {rs : List Res} {a : Option Addr} {ns : List ByteArray} {c : Nat} (h : ES w W d S sb n t m dn lost (resP (.slice a (pairsOf m1 ns).length c) (pairsOf m1 ns) :: rs)) (hN : Nm m1 ns) (hf : Fits m1) (hl : ns.length ≤ 256) : PrsAt W a (pairsOf m1 ns) := by
  have hr : PRow W _ _ := h.ed.hold (r := resP (.slice a (pairsOf m1 ns).length c) (pairsOf m1 ns)) (by simp)
  exact hr.prs (by rw [pairsOf_len]; omega) (fit_of hN hf)
set_option maxRecDepth 100000 in
set_option maxHeartbeats 8000000 in
theorem StoreWhole_walk (w : World) (ao : Option Addr) (capo : Nat) (old : List PP) (ho : PrsAt w ao old) (al : Option Addr) (capl : Nat) (l : List PP) (hl : PrsAt w al l) (n : Int) (hn1 : -9223372036854775808 ≤ n) (hn2 : n ≤ 9223372036854775807) (bits : Int) (_hb1 : -9223372036854775808 ≤ bits) (_hb2 : bits ≤ 9223372036854775807) :
    Calls Tryz.prog 4 #[.slice ao old.length capo, .slice al l.length capl, .int .i64 n, .int .i64 bits] w fun e w' => e = .returned (.bool true) ∧ Below w.heap.size w w' := by
  have K1 := hide (size_any (cap := capo) ho)
  have K2 := hide (fun (W : World) (hW : Below w.heap.size w W) => size_any (cap := capl) (hl.bw hW))
  have HO := hide ho
  have HL := hide hl
  clear ho hl
  obtain ⟨LO, hLO⟩ : ∃ L, L = old.length := ⟨_, rfl⟩
  obtain ⟨LL, hLL⟩ : ∃ L, L = l.length := ⟨_, rfl⟩
  have HLe := hide (And.intro hLO hLL)
  rw [← hLO] at K1 ⊢
  rw [← hLL] at K2 ⊢
  clear hLO hLL
  go_enter Tryz.func4, Tryz.ntmps4
  go_wp2_with fail
  refine (unhide K1).mono ?_
  rintro e W1 ⟨N, rfl, hN1, hN2, b1⟩
  have K3 := hide (unhide K2 W1 b1)
  have HB0 := hide b1
  clear K1 K2 b1
  go_wp2_with fail
  refine (unhide K3).mono ?_
  rintro e W2 ⟨M, rfl, hM1, hM2, b2⟩
  obtain ⟨X1, hX1⟩ : ∃ X, X = W2.alloc (.cells #[.int .i64 (N : Int), .int .i64 (M : Int)] 3) := ⟨_, rfl⟩
  have q1 : X1.heap[W2.heap.size]? = some (.cells #[.int .i64 (N : Int), .int .i64 (M : Int)] 3 (0, 0)) := by rw [hX1]; exact heap_alloc_new _ _
  have KB := hide (beyond7_two W2.heap.size N M 2 X1 hN2 hM2 (by simp [World.cell?, q1]) (by simp [World.cell?, q1]))
  have HB1 : Hid (Below w.heap.size w X1) := bw_tr (bw_tr (unhide HB0) b2) (by rw [hX1]; exact bw_alloc _ _)
  have HNM := hide (And.intro hN1 hM1)
  have HX1 := hide hX1
  clear K3 HB0 b2 q1 hN1 hN2 hM1 hM2
  go_wp2_with fail
  rw [← unhide HX1]
  clear hX1
  refine (unhide KB).mono ?_
  rintro e w2 ⟨rfl, rfl⟩
  clear KB HX1
  by_cases hbig : 262144 < N + M
  · rw [decide_eq_true hbig]
    go_wp2_with fail
    go_ret
    exact ⟨rfl, unhide HB1⟩
  rw [decide_eq_false hbig]
  have HLe2 : Hid (old.length ≤ 262144 ∧ l.length ≤ 262144) := by have h1 := unhide HNM; have h2 := unhide HLe; exact ⟨by omega, by omega⟩
  clear hbig HNM
  by_cases hneg : n < 0
  · go_wp2_with fail
    go_ret
    exact ⟨rfl, unhide HB1⟩
  have K1 := hide (ED.start ((Env.nil w).new (unhide HB1)) 200 (by omega) (by omega))
  go_wp2_with fail
  refine (unhide K1).mono ?_
  rintro e W3 ⟨d, rfl, E1⟩
  have K2 := hide (sx_open E1 (by omega))
  clear K1 E1
  go_wp2_with fail
  refine (unhide K2).mono ?_
  rintro e W4 ⟨x, rfl, V1, ok1, hd1, hn1, hm1⟩
  clear K2
  have K3 := hide (sx_change (cap := capo) V1 ok1 (by simp) (by omega) (by omega) ((unhide HO).bw V1.bel) (unhide HLe2).1)
  rw [← (unhide HLe).1, hm1, hn1] at K3
  rename_i hn1'
  clear V1 ok1 hm1
  go_wp2_with fail
  refine (unhide K3).mono ?_
  clear K3
  rintro e W5 ⟨y1, x1, rfl, V2, ok2, hd2, hsb2, ⟨-, hy, -⟩ | ⟨-, rfl, hm2, hn2'⟩⟩
  · have q1 : (y1 == 0) = false := by simp [hy]
    have q2 : decide (y1 = 0) = false := decide_eq_false hy
    have q3 : (y1 != 0) = true := by simp [hy]
    have KA := hide (alive7_any W5)
    have HB := hide V2.bel
    clear V2 ok2 hd2 hsb2
    go_wp2_with (first | (go_at_call 14; refine (unhide KA).mono ?_; rintro e w3 ⟨rfl, b3⟩))
    go_ret
    exact ⟨rfl, bw_tr (unhide HB) b3⟩
  rw [← hsb2, show d = x1.d from (hd2.trans hd1).symm]
  have hn2 : x1.n = 1 := by omega
  have K4 := hide (all_any (SX.es V2) ok2.fits)
  have HV2 := hide (And.intro V2 (And.intro ok2 hn2))
  clear V2 ok2 hn2 hn2' hm2 hd2 hd1 hsb2
  go_wp2_with fail
  refine (unhide K4).mono ?_
  clear K4
  rintro e W6 ⟨v1, ns1, rfl, hN1, hl1, hQ1⟩
  have V3 := SX.keep (unhide HV2).1 hQ1
  obtain ⟨a1, c1, hv1⟩ := hQ1.row.form
  subst hv1
  have ok2 := (unhide HV2).2.1
  have HN1 := hide (And.intro hN1 (And.intro hl1 ok2.fits))
  obtain ⟨jb, mb, E3⟩ := SX.es V3
  have hcutE : x1.S.doCut n bits = ({ x1.S with cut := some (n.toNat, bits) }, 0) := by unfold DS.doCut; rw [if_neg (by simp [ok2.good.up]), if_neg (by omega)]
  have K5 := hide (E3.cut n bits hn2)
  rw [hcutE] at K5
  clear V3 hQ1 hN1 hl1 E3 hcutE
  go_wp2_with fail
  refine (unhide K5).mono ?_
  clear K5
  rintro e W7 ⟨rfl, E7⟩
  obtain ⟨S2, hS2⟩ : ∃ S2 : DS, S2 = { x1.S with cut := some (n.toNat, bits) } := ⟨_, rfl⟩
  rw [← hS2] at E7
  have G2 : Good S2 x1.n x1.t := by rw [hS2]; exact good_cut ok2.good _
  have hS2N : S2.N = 200 := by rw [hS2]; exact ok2.N
  have hS2c : S2.cut = some (n.toNat, bits) := by rw [hS2]
  have hS2n : S2.cnt ≤ 5000 := by rw [hS2]; exact ok2.cnt
  have hnx : x1.n = 1 := (unhide HV2).2.2
  have hold1 : Holds7 x1.n x1.t x1.m := ok2.hold
  have hf1 : Fits x1.m := ok2.fits
  clear hS2 ok2 HV2
  obtain ⟨d, hd⟩ : ∃ d, d = x1.d := ⟨_, rfl⟩
  obtain ⟨sb, hsb⟩ : ∃ sb, sb = x1.sb := ⟨_, rfl⟩
  obtain ⟨m1, hm1⟩ : ∃ m, m = x1.m := ⟨_, rfl⟩
  obtain ⟨t1, ht1⟩ : ∃ t, t = x1.t := ⟨_, rfl⟩
  rw [hnx] at E7 G2 hold1
  rw [← hd, ← hsb, ← hm1, ← ht1] at E7
  rw [← ht1] at G2 hold1
  rw [← hm1] at hold1 hf1 HN1
  rw [← hd, ← hsb, ← hm1]
  clear hd hsb hm1 ht1 hnx
  have A7 : ES w W7 d S2 sb 1 t1 m1 false false [resP (.slice a1 (pairsOf m1 ns1).length c1) (pairsOf m1 ns1)] := ⟨jb, mb, E7⟩
  obtain ⟨RB, hRB⟩ : ∃ R, R = resP (.slice a1 (pairsOf m1 ns1).length c1) (pairsOf m1 ns1) := ⟨_, rfl⟩
  have hsP : ∀ r ∈ [RB], Solid r := by intro r hr; simp at hr; subst hr; rw [hRB]; exact solid_P _ _
  rw [← hRB] at A7
  have hrm : room6 S2 = 6336 := by unfold room6; rw [hS2N]
  have K6 := hide (change_any (cap := capl) A7 G2.up G2.N4 hf1 hsP ((unhide HL).bw A7.bel) (unhide HLe2).2
    (P0 := fun T S' => Good S' 2 T ∧ S'.N = 200) (P6 := fun S' => S'.up = false ∧ S'.N = 200 ∧ (Good S'.again 1 t1 ∨ ∃ ns, Nm (m1.chg l) ns ∧ ns.length ≤ 256 ∧ Good S'.again 2 (packT (m1.chg l) ns)))
    (by
      intro ns q1 q2 q3 jb' rs' W' hs E'
      refine (Put_go E' hs G2.up G2.N4 (by omega) _ q3 (by omega) (by rw [G2.sn]; simp)).mono ?_
      rintro e W'' ⟨S', y, rfl, hv, hE⟩
      rcases G2.putCut hS2c (by omega) q3 hv with ⟨p1, rfl, p3, p4, p5⟩ | ⟨p1, rfl, p3, p4, p5, p6, p7⟩
      · exact ⟨0, rfl, Or.inl ⟨rfl, S', ⟨p3, by rw [p4]; exact hS2N⟩, by simpa using hE⟩⟩
      · refine ⟨6, rfl, Or.inr ⟨rfl, S', ⟨p3, by rw [p4]; exact hS2N, ?_⟩, by simpa using hE⟩⟩
        rcases p7 with q | ⟨_, q⟩
        · exact Or.inl q
        · exact Or.inr ⟨ns, q1, q2, q⟩))
  rw [← (unhide HLe).2] at K6
  have HC := hide (And.intro G2 (And.intro hold1 (And.intro hf1 hRB)))
  clear E7 A7 hsP hS2N hS2c hS2n hrm hold1 hf1 G2
  go_wp2_with fail
  refine (unhide K6).mono ?_
  clear K6
  rintro e W8 ⟨y, rfl, ⟨hno, hy0, -, hy6, A8⟩ | ⟨hok, rfl, S', ns, hN, hl2, hsz, ⟨G3, hN3⟩, A8⟩ | ⟨hok, rfl, S', ns, hN, hl2, ⟨hdn, hN3, hG⟩, A8⟩⟩
  · have q1 : (y == 0) = false := by simp [hy0]
    have q2 : decide (y = 0) = false := decide_eq_false hy0
    have q3 : (y != 0) = true := by simp [hy0]
    have K8 := hide (all_any A8 (unhide HC).2.2.1)
    have HA8 := hide A8
    clear A8
    go_wp2_with fail
    refine (unhide K8).mono ?_
    clear K8
    rintro e W9 ⟨v2, ns2, rfl, hN2, hl2', hQ2⟩
    obtain rfl : ns1 = ns2 := (unhide HN1).1.uniq hN2
    have A9 := (unhide HA8).new hQ2.bel
    rw [(unhide HC).2.2.2] at A9
    have hA1 := rowB A9 (unhide HN1).1 (unhide HN1).2.2 (unhide HN1).2.1
    rw [← (unhide HC).2.2.2] at A9
    obtain ⟨a2, c2, hv2, hA2⟩ := hQ2.row.read (by rw [pairsOf_len]; omega) (fit_of hN2 (unhide HN1).2.2)
    subst hv2
    have K9 := hide (same7_any (ca := c1) (cb := c2) hA1 hA2)
    have HA9 := hide A9
    clear hN2 hl2' hQ2 A9 hA1 hA2 HA8
    go_wp2_with fail
    refine (unhide K9).mono ?_
    clear K9
    rintro e W10 ⟨z, rfl, hz, b10⟩
    obtain rfl : z = true := by simpa using hz
    have E10 := ((unhide HA9).new b10).ed
    clear hz b10 HA9

    have KU := hide E10.up
    rw [(unhide HC).1.up] at KU
    have KC := hide (E10.crash bits)
    rw [DS.crash_plain (unhide HC).1.up] at KC
    clear E10
    go_wp2_with (first | (go_at_call 20; refine (unhide KU).mono ?_; rintro e w1 ⟨rfl, rfl⟩))
    refine (unhide KC).mono ?_
    clear KU KC
    rintro e W11 ⟨rfl, E11⟩
    have KS := hide E11.begin
    rw [DS.start_down (S := S2.fall bits) rfl] at KS
    clear E11
    go_wp2_with fail
    refine (unhide KS).mono ?_
    clear KS
    rintro e W12 ⟨rfl, E12⟩
    have G8 := good_crash (unhide HC).1 bits
    have E8 : ED w W12 d (S2.fall bits).again [RB] := E12
    obtain ⟨S8, hS8⟩ : ∃ S, S = (S2.fall bits).again := ⟨_, rfl⟩
    rw [← hS8] at G8 E8
    have H8 := (unhide HC).2.1
    have F8 := (unhide HC).2.2.1
    clear E12 hS8

    have K11 := hide (sopen_any E8 G8 H8)
    have HG8 := hide (And.intro G8 (And.intro H8 F8))
    clear E8 G8 H8 F8
    go_wp2_with fail
    refine (unhide K11).mono ?_
    clear K11
    rintro e W9 ⟨ab, rfl, A9⟩
    obtain ⟨ja, ma, E9⟩ := A9
    have K12 := hide (sopen_any E9 (unhide HG8).1 (unhide HG8).2.1)
    clear E9
    go_wp2_with fail
    refine (unhide K12).mono ?_
    clear K12
    rintro e W10 ⟨bb, rfl, B10⟩
    have A10 : ES w W10 d S8 ab 1 t1 m1 false false [RB] := ⟨ja, ma, B10.ed⟩
    have K13 := hide (all_any A10 (unhide HG8).2.2)
    have HA10 := hide (And.intro A10 B10)
    clear A10 B10
    go_wp2_with fail
    refine (unhide K13).mono ?_
    clear K13
    rintro e W11 ⟨va, na, rfl, hNa, hla, hQa⟩
    have K14 := hide (all_any ((unhide HA10).2.new hQa.bel) (unhide HG8).2.2)
    have HQa := hide (And.intro hNa (And.intro hla hQa))
    clear hNa hla hQa
    go_wp2_with fail
    refine (unhide K14).mono ?_
    clear K14
    rintro e W12 ⟨vb, nb, rfl, hNb, hlb, hQb⟩
    obtain ⟨hNa, hla, hQa⟩ := unhide HQa
    obtain rfl : na = nb := hNa.uniq hNb
    have hfit := fit_of hNa (unhide HG8).2.2
    have hQa' := hQa.bw hQb.bel
    obtain ⟨b1, d1, hv1, hB1⟩ := hQa'.row.read (by rw [pairsOf_len]; omega) hfit
    obtain ⟨b2, d2, hv2, hB2⟩ := hQb.row.read (by rw [pairsOf_len]; omega) hfit
    subst hv1 hv2
    have K15 := hide (same7_any (ca := d1) (cb := d2) hB1 hB2)
    have A12 := (unhide HA10).1.new (bw_tr hQa.bel hQb.bel)
    have HA12 := hide (And.intro A12 (And.intro hNa hla))
    clear hNa hla hQa hNb hlb hQb hfit hQa' hB1 hB2 HQa A12 HA10
    go_wp2_with fail
    refine (unhide K15).mono ?_
    clear K15
    rintro e W13 ⟨z, rfl, hz, b13⟩
    obtain rfl : z = true := by simpa using hz
    have A13 := (unhide HA12).1.new b13
    have K16 := hide (all_any A13 (unhide HG8).2.2)
    have HA13 := hide A13
    clear hz b13 A13
    go_wp2_with fail
    refine (unhide K16).mono ?_
    clear K16
    rintro e WX ⟨vx, nx, rfl, hNx, hlx, hQx⟩
    obtain rfl : na = nx := (unhide HA12).2.1.uniq hNx
    have AX := (unhide HA13).new hQx.bel
    obtain ⟨ax, cx, hvx, hAx⟩ := hQx.row.read (by rw [pairsOf_len]; omega) (fit_of hNx (unhide HG8).2.2)
    subst hvx
    have HX := hide (And.intro AX (And.intro hAx (And.intro hNx hlx)))
    clear HA13 HA12 hNx hlx hQx AX hAx

    obtain ⟨AX, hAx, hNx, hlx⟩ := unhide HX
    obtain rfl : ns1 = na := (unhide HN1).1.uniq hNx
    have hA1 := rowB (by rw [← (unhide HC).2.2.2]; exact AX) (unhide HN1).1 (unhide HN1).2.2 (unhide HN1).2.1
    have K17 := hide (same7_any (ca := cx) (cb := c1) hAx hA1)
    have HAX := hide AX
    clear AX hAx hNx hlx hA1 HX
    go_wp2_with fail
    refine (unhide K17).mono ?_
    clear K17
    rintro e WY ⟨z, rfl, hz, bY⟩
    obtain rfl : z = true := by simpa using hz
    have AY := (unhide HAX).new bY
    have K18 := hide (sseq_any AY)
    have KA := hide (alive7_any WY)
    have HBY := hide AY.bel
    clear hz bY AY HAX
    go_wp2_with (first | (go_at_call 23; refine (unhide K18).mono ?_; rintro e w1 ⟨rfl, rfl⟩) | (go_at_call 14; refine (unhide KA).mono ?_; rintro e w3 ⟨rfl, b3⟩))
    go_ret
    exact ⟨rfl, bw_tr (unhide HBY) b3⟩
  · have hf2 : Fits (m1.chg l) := (unhide HC).2.2.1.chg (fun p hp => ((chgE_iff.1 hok.1).1 p hp).1)
    have H2 : Holds7 2 (packT (m1.chg l) ns) (m1.chg l) := Or.inr ⟨by omega, ns, hN, hf2, hl2, rfl⟩
    have K8 := hide (all_any A8 hf2)
    have HA8 := hide (And.intro A8 (And.intro G3 (And.intro H2 hf2)))
    clear A8 G3 H2 hf2 hN hl2 hsz hN3 hok
    obtain ⟨T2, hT2⟩ : ∃ T, T = packT (m1.chg l) ns := ⟨_, rfl⟩
    obtain ⟨m2, hm2⟩ : ∃ m, m = m1.chg l := ⟨_, rfl⟩
    rw [← hT2, ← hm2] at HA8
    rw [← hm2] at K8
    clear hT2 hm2
    go_wp2_with fail
    refine (unhide K8).mono ?_
    clear K8
    rintro e W9 ⟨v2, ns2, rfl, hN2, hl2, hQ2⟩
    have A9 := es_keep (unhide HA8).1 hQ2
    obtain ⟨a2, c2, hv2⟩ := hQ2.row.form
    subst hv2
    have HN2 := hide (And.intro hN2 (And.intro hl2 (unhide HA8).2.2.2))
    have E10 := A9.ed
    have KU := hide E10.up
    rw [(unhide HA8).2.1.up] at KU
    have KC := hide (E10.crash bits)
    rw [DS.crash_plain (unhide HA8).2.1.up] at KC
    have HG := hide (unhide HA8).2
    clear E10 A9 hQ2 hN2 hl2 HA8
    go_wp2_with (first | (go_at_call 20; refine (unhide KU).mono ?_; rintro e w1 ⟨rfl, rfl⟩))
    refine (unhide KC).mono ?_
    clear KU KC
    rintro e W11 ⟨rfl, E11⟩
    have KS := hide E11.begin
    rw [DS.start_down (S := S'.fall bits) rfl] at KS
    clear E11
    go_wp2_with fail
    refine (unhide KS).mono ?_
    clear KS
    rintro e W12 ⟨rfl, E12⟩
    have G8 := good_crash (unhide HG).1 bits
    obtain ⟨RC, hRC⟩ : ∃ R, R = resP (.slice a2 (pairsOf m2 ns2).length c2) (pairsOf m2 ns2) := ⟨_, rfl⟩
    have E8 : ED w W12 d (S'.fall bits).again [resP (.slice a2 (pairsOf m2 ns2).length c2) (pairsOf m2 ns2), RB] := E12
    rw [← hRC] at E8
    obtain ⟨S8, hS8⟩ : ∃ S, S = (S'.fall bits).again := ⟨_, rfl⟩
    rw [← hS8] at G8 E8
    have H8 := (unhide HG).2.1
    have F8 := (unhide HG).2.2
    have HRC := hide hRC
    clear E12 hS8 HG hRC

    have K11 := hide (sopen_any E8 G8 H8)
    have HG8 := hide (And.intro G8 (And.intro H8 F8))
    clear E8 G8 H8 F8
    go_wp2_with fail
    refine (unhide K11).mono ?_
    clear K11
    rintro e W9 ⟨ab, rfl, A9⟩
    obtain ⟨ja, ma, E9⟩ := A9
    have K12 := hide (sopen_any E9 (unhide HG8).1 (unhide HG8).2.1)
    clear E9
    go_wp2_with fail
    refine (unhide K12).mono ?_
    clear K12
    rintro e W10 ⟨bb, rfl, B10⟩
    have A10 : ES w W10 d S8 ab 2 T2 m2 false false [RC, RB] := ⟨ja, ma, B10.ed⟩
    have K13 := hide (all_any A10 (unhide HG8).2.2)
    have HA10 := hide (And.intro A10 B10)
    clear A10 B10
    go_wp2_with fail
    refine (unhide K13).mono ?_
    clear K13
    rintro e W11 ⟨va, na, rfl, hNa, hla, hQa⟩
    have K14 := hide (all_any ((unhide HA10).2.new hQa.bel) (unhide HG8).2.2)
    have HQa := hide (And.intro hNa (And.intro hla hQa))
    clear hNa hla hQa
    go_wp2_with fail
    refine (unhide K14).mono ?_
    clear K14
    rintro e W12 ⟨vb, nb, rfl, hNb, hlb, hQb⟩
    obtain ⟨hNa, hla, hQa⟩ := unhide HQa
    obtain rfl : na = nb := hNa.uniq hNb
    have hfit := fit_of hNa (unhide HG8).2.2
    have hQa' := hQa.bw hQb.bel
    obtain ⟨b1, d1, hv1, hB1⟩ := hQa'.row.read (by rw [pairsOf_len]; omega) hfit
    obtain ⟨b2, d2, hv2, hB2⟩ := hQb.row.read (by rw [pairsOf_len]; omega) hfit
    subst hv1 hv2
    have K15 := hide (same7_any (ca := d1) (cb := d2) hB1 hB2)
    have A12 := (unhide HA10).1.new (bw_tr hQa.bel hQb.bel)
    have HA12 := hide (And.intro A12 (And.intro hNa hla))
    clear hNa hla hQa hNb hlb hQb hfit hQa' hB1 hB2 HQa A12 HA10
    go_wp2_with fail
    refine (unhide K15).mono ?_
    clear K15
    rintro e W13 ⟨z, rfl, hz, b13⟩
    obtain rfl : z = true := by simpa using hz
    have A13 := (unhide HA12).1.new b13
    have K16 := hide (all_any A13 (unhide HG8).2.2)
    have HA13 := hide A13
    clear hz b13 A13
    go_wp2_with fail
    refine (unhide K16).mono ?_
    clear K16
    rintro e WX ⟨vx, nx, rfl, hNx, hlx, hQx⟩
    obtain rfl : na = nx := (unhide HA12).2.1.uniq hNx
    have AX := (unhide HA13).new hQx.bel
    obtain ⟨ax, cx, hvx, hAx⟩ := hQx.row.read (by rw [pairsOf_len]; omega) (fit_of hNx (unhide HG8).2.2)
    subst hvx
    have HX := hide (And.intro AX (And.intro hAx (And.intro hNx hlx)))
    clear HA13 HA12 hNx hlx hQx AX hAx

    obtain ⟨AX, hAx, hNx, hlx⟩ := unhide HX
    obtain rfl : ns2 = na := (unhide HN2).1.uniq hNx
    have hA1 := rowB (by rw [← unhide HRC]; exact AX) (unhide HN2).1 (unhide HN2).2.2 (unhide HN2).2.1
    have K17 := hide (same7_any (ca := cx) (cb := c2) hAx hA1)
    have HAX := hide AX
    clear AX hAx hNx hlx hA1 HX
    go_wp2_with fail
    refine (unhide K17).mono ?_
    clear K17
    rintro e WY ⟨z, rfl, hz, bY⟩
    obtain rfl : z = true := by simpa using hz
    have AY := (unhide HAX).new bY
    have K18 := hide (sseq_any AY)
    have KA := hide (alive7_any WY)
    have HBY := hide AY.bel
    clear hz bY AY HAX
    go_wp2_with (first | (go_at_call 23; refine (unhide K18).mono ?_; rintro e w1 ⟨rfl, rfl⟩) | (go_at_call 14; refine (unhide KA).mono ?_; rintro e w3 ⟨rfl, b3⟩))
    go_ret
    exact ⟨rfl, bw_tr (unhide HBY) b3⟩
  · have HOk := hide (And.intro hok.1 hN)
    clear hok hN hl2 hN3

    have K8 := hide (all_any A8 (unhide HC).2.2.1)
    have HA8 := hide A8
    clear A8
    go_wp2_with fail
    refine (unhide K8).mono ?_
    clear K8
    rintro e W9 ⟨v2, ns2, rfl, hN2, hl2', hQ2⟩
    obtain rfl : ns1 = ns2 := (unhide HN1).1.uniq hN2
    have A9 := (unhide HA8).new hQ2.bel
    rw [(unhide HC).2.2.2] at A9
    have hA1 := rowB A9 (unhide HN1).1 (unhide HN1).2.2 (unhide HN1).2.1
    rw [← (unhide HC).2.2.2] at A9
    obtain ⟨a2, c2, hv2, hA2⟩ := hQ2.row.read (by rw [pairsOf_len]; omega) (fit_of hN2 (unhide HN1).2.2)
    subst hv2
    have K9 := hide (same7_any (ca := c1) (cb := c2) hA1 hA2)
    have HA9 := hide A9
    clear hN2 hl2' hQ2 A9 hA1 hA2 HA8
    go_wp2_with fail
    refine (unhide K9).mono ?_
    clear K9
    rintro e W10 ⟨z, rfl, hz, b10⟩
    obtain rfl : z = true := by simpa using hz
    have E10 := ((unhide HA9).new b10).ed
    clear hz b10 HA9

    have KU := hide E10.up
    rw [hdn] at KU
    have KS := hide E10.begin
    rw [DS.start_down (S := S') hdn] at KS
    clear E10 hdn
    go_wp2_with (first | (go_at_call 20; refine (unhide KU).mono ?_; rintro e w1 ⟨rfl, rfl⟩))
    refine (unhide KS).mono ?_
    clear KS KU
    rintro e W12 ⟨rfl, E12⟩
    have E8 : ED w W12 d S'.again [RB] := E12
    obtain ⟨S8, hS8⟩ : ∃ S, S = S'.again := ⟨_, rfl⟩
    rw [← hS8] at E8 hG
    clear E12 hS8
    rcases hG with G8 | ⟨ns', hN', hl', G8⟩
    · have H8 := (unhide HC).2.1
      have F8 := (unhide HC).2.2.1

      have K11 := hide (sopen_any E8 G8 H8)
      have HG8 := hide (And.intro G8 (And.intro H8 F8))
      clear E8 G8 H8 F8
      go_wp2_with fail
      refine (unhide K11).mono ?_
      clear K11
      rintro e W9 ⟨ab, rfl, A9⟩
      obtain ⟨ja, ma, E9⟩ := A9
      have K12 := hide (sopen_any E9 (unhide HG8).1 (unhide HG8).2.1)
      clear E9
      go_wp2_with fail
      refine (unhide K12).mono ?_
      clear K12
      rintro e W10 ⟨bb, rfl, B10⟩
      have A10 : ES w W10 d S8 ab 1 t1 m1 false false [RB] := ⟨ja, ma, B10.ed⟩
      have K13 := hide (all_any A10 (unhide HG8).2.2)
      have HA10 := hide (And.intro A10 B10)
      clear A10 B10
      go_wp2_with fail
      refine (unhide K13).mono ?_
      clear K13
      rintro e W11 ⟨va, na, rfl, hNa, hla, hQa⟩
      have K14 := hide (all_any ((unhide HA10).2.new hQa.bel) (unhide HG8).2.2)
      have HQa := hide (And.intro hNa (And.intro hla hQa))
      clear hNa hla hQa
      go_wp2_with fail
      refine (unhide K14).mono ?_
      clear K14
      rintro e W12 ⟨vb, nb, rfl, hNb, hlb, hQb⟩
      obtain ⟨hNa, hla, hQa⟩ := unhide HQa
      obtain rfl : na = nb := hNa.uniq hNb
      have hfit := fit_of hNa (unhide HG8).2.2
      have hQa' := hQa.bw hQb.bel
      obtain ⟨b1, d1, hv1, hB1⟩ := hQa'.row.read (by rw [pairsOf_len]; omega) hfit
      obtain ⟨b2, d2, hv2, hB2⟩ := hQb.row.read (by rw [pairsOf_len]; omega) hfit
      subst hv1 hv2
      have K15 := hide (same7_any (ca := d1) (cb := d2) hB1 hB2)
      have A12 := (unhide HA10).1.new (bw_tr hQa.bel hQb.bel)
      have HA12 := hide (And.intro A12 (And.intro hNa hla))
      clear hNa hla hQa hNb hlb hQb hfit hQa' hB1 hB2 HQa A12 HA10
      go_wp2_with fail
      refine (unhide K15).mono ?_
      clear K15
      rintro e W13 ⟨z, rfl, hz, b13⟩
      obtain rfl : z = true := by simpa using hz
      have A13 := (unhide HA12).1.new b13
      have K16 := hide (all_any A13 (unhide HG8).2.2)
      have HA13 := hide A13
      clear hz b13 A13
      go_wp2_with fail
      refine (unhide K16).mono ?_
      clear K16
      rintro e WX ⟨vx, nx, rfl, hNx, hlx, hQx⟩
      obtain rfl : na = nx := (unhide HA12).2.1.uniq hNx
      have AX := (unhide HA13).new hQx.bel
      obtain ⟨ax, cx, hvx, hAx⟩ := hQx.row.read (by rw [pairsOf_len]; omega) (fit_of hNx (unhide HG8).2.2)
      subst hvx
      have HX := hide (And.intro AX (And.intro hAx (And.intro hNx hlx)))
      clear HA13 HA12 hNx hlx hQx AX hAx

      obtain ⟨AX, hAx, hNx, hlx⟩ := unhide HX
      obtain rfl : ns1 = na := (unhide HN1).1.uniq hNx
      have hA1 := rowB (by rw [← (unhide HC).2.2.2]; exact AX) (unhide HN1).1 (unhide HN1).2.2 (unhide HN1).2.1
      have K17 := hide (same7_any (ca := cx) (cb := c1) hAx hA1)
      have HAX := hide AX
      clear AX hAx hNx hlx hA1 HX
      go_wp2_with fail
      refine (unhide K17).mono ?_
      clear K17
      rintro e WY ⟨z, rfl, hz, bY⟩
      obtain rfl : z = true := by simpa using hz
      have AY := (unhide HAX).new bY
      have K18 := hide (sseq_any AY)
      have KA := hide (alive7_any WY)
      have HBY := hide AY.bel
      clear hz bY AY HAX
      go_wp2_with (first | (go_at_call 23; refine (unhide K18).mono ?_; rintro e w1 ⟨rfl, rfl⟩) | (go_at_call 14; refine (unhide KA).mono ?_; rintro e w3 ⟨rfl, b3⟩))
      go_ret
      exact ⟨rfl, bw_tr (unhide HBY) b3⟩
    · have F8 : Fits (m1.chg l) := (unhide HC).2.2.1.chg (fun p hp => ((chgE_iff.1 (unhide HOk).1).1 p hp).1)
      have H8 : Holds7 2 (packT (m1.chg l) ns') (m1.chg l) := Or.inr ⟨by omega, ns', hN', F8, hl', rfl⟩
      clear hN' hl'
      obtain ⟨T2, hT2⟩ : ∃ T, T = packT (m1.chg l) ns' := ⟨_, rfl⟩
      obtain ⟨m2, hm2⟩ : ∃ m, m = m1.chg l := ⟨_, rfl⟩
      rw [← hT2] at G8 H8
      rw [← hm2] at H8 F8
      have HM2 := hide hm2
      clear hT2 hm2

      have K11 := hide (sopen_any E8 G8 H8)
      have HG8 := hide (And.intro G8 (And.intro H8 F8))
      clear E8 G8 H8 F8
      go_wp2_with fail
      refine (unhide K11).mono ?_
      clear K11
      rintro e W9 ⟨ab, rfl, A9⟩
      obtain ⟨ja, ma, E9⟩ := A9
      have K12 := hide (sopen_any E9 (unhide HG8).1 (unhide HG8).2.1)
      clear E9
      go_wp2_with fail
      refine (unhide K12).mono ?_
      clear K12
      rintro e W10 ⟨bb, rfl, B10⟩
      have A10 : ES w W10 d S8 ab 2 T2 m2 false false [RB] := ⟨ja, ma, B10.ed⟩
      have K13 := hide (all_any A10 (unhide HG8).2.2)
      have HA10 := hide (And.intro A10 B10)
      clear A10 B10
      go_wp2_with fail
      refine (unhide K13).mono ?_
      clear K13
      rintro e W11 ⟨va, na, rfl, hNa, hla, hQa⟩
      have K14 := hide (all_any ((unhide HA10).2.new hQa.bel) (unhide HG8).2.2)
      have HQa := hide (And.intro hNa (And.intro hla hQa))
      clear hNa hla hQa
      go_wp2_with fail
      refine (unhide K14).mono ?_
      clear K14
      rintro e W12 ⟨vb, nb, rfl, hNb, hlb, hQb⟩
      obtain ⟨hNa, hla, hQa⟩ := unhide HQa
      obtain rfl : na = nb := hNa.uniq hNb
      have hfit := fit_of hNa (unhide HG8).2.2
      have hQa' := hQa.bw hQb.bel
      obtain ⟨b1, d1, hv1, hB1⟩ := hQa'.row.read (by rw [pairsOf_len]; omega) hfit
      obtain ⟨b2, d2, hv2, hB2⟩ := hQb.row.read (by rw [pairsOf_len]; omega) hfit
      subst hv1 hv2
      have K15 := hide (same7_any (ca := d1) (cb := d2) hB1 hB2)
      have A12 := (unhide HA10).1.new (bw_tr hQa.bel hQb.bel)
      have HA12 := hide (And.intro A12 (And.intro hNa hla))
      clear hNa hla hQa hNb hlb hQb hfit hQa' hB1 hB2 HQa A12 HA10
      go_wp2_with fail
      refine (unhide K15).mono ?_
      clear K15
      rintro e W13 ⟨z, rfl, hz, b13⟩
      obtain rfl : z = true := by simpa using hz
      have A13 := (unhide HA12).1.new b13
      have K16 := hide (all_any A13 (unhide HG8).2.2)
      have HA13 := hide A13
      clear hz b13 A13
      go_wp2_with fail
      refine (unhide K16).mono ?_
      clear K16
      rintro e WX ⟨vx, nx, rfl, hNx, hlx, hQx⟩
      obtain rfl : na = nx := (unhide HA12).2.1.uniq hNx
      have AX := (unhide HA13).new hQx.bel
      obtain ⟨ax, cx, hvx, hAx⟩ := hQx.row.read (by rw [pairsOf_len]; omega) (fit_of hNx (unhide HG8).2.2)
      subst hvx
      have HX := hide (And.intro AX (And.intro hAx (And.intro hNx hlx)))
      clear HA13 HA12 hNx hlx hQx AX hAx

      obtain ⟨AX, hAx, hNx, hlx⟩ := unhide HX
      have hA1 := rowB (by rw [← (unhide HC).2.2.2]; exact AX) (unhide HN1).1 (unhide HN1).2.2 (unhide HN1).2.1
      have K17 := hide (same7_any (ca := cx) (cb := c1) hAx hA1)
      have HAX := hide (And.intro AX (And.intro hAx (And.intro hNx hlx)))
      clear AX hAx hNx hlx hA1 HX
      go_wp2_with fail
      refine (unhide K17).mono ?_
      clear K17
      rintro e WY ⟨z, rfl, -, bY⟩
      have AY := (unhide HAX).1.new bY
      have K18 := hide (sseq_any AY)
      have HAY := hide (And.intro AY (And.intro ((unhide HAX).2.1.bw bY) (unhide HAX).2.2))
      have hLLi : (LL : Int) ≤ 262144 := by have := (unhide HLe2).2; have := (unhide HLe).2; omega
      clear bY AY HAX
      obtain ⟨LX, hLX⟩ : ∃ L, L = (pairsOf m2 na).length := ⟨_, rfl⟩
      rw [← hLX]
      have HLX := hide hLX
      clear hLX
      cases z
      all_goals
        go_wp2_with (first | (go_at_call 23; refine (unhide K18).mono ?_; rintro e w1 ⟨rfl, rfl⟩))
        go_loopw [19] (fun iv wr => ∃ i : Nat, i ≤ LL ∧ iv = .int .i64 (i : Int) ∧ Hid (ES w wr d S8 ab 2 T2 m2 false false [RB] ∧ PrsAt wr ax (pairsOf m2 na))) (fun iv _ => (LL - intOf iv).toNat)
        case atStart => exact ⟨0, by omega, rfl, (unhide HAY).1, (unhide HAY).2.1⟩
        case round =>
          obtain ⟨i, hi, rfl, HR⟩ := hrel
          by_cases hlt : i < LL
          · obtain ⟨p, hp⟩ : ∃ p, l[i]? = some p := ⟨_, List.getElem?_eq_getElem (by have := (unhide HLe).2; omega)⟩
            obtain ⟨b, off, ha, hcell⟩ := (unhide HL).get hp
            subst ha
            have hpm := List.mem_of_getElem? hp
            obtain ⟨f1, f2⟩ := (unhide HL).fit p hpm
            obtain ⟨p0, p1, p2⟩ := hcell wr (unhide HR).1.bel
            have K19 := hide (sget_any (unhide HR).1 p.n f1)
            obtain ⟨g1, g2⟩ := chg_told (m := m1) (unhide HOk).1 hpm
            rw [unhide HM2, g1, g2] at K19
            have hii : (i : Int) < (LL : Int) := by omega
            have HCe := hide hcell
            clear hcell hp hpm g1 g2 f1 f2
            go_wp2_with fail
            refine (unhide K19).mono ?_
            rintro e WZ ⟨rfl, bZ⟩
            have A9 := (unhide HR).1.new bZ
            obtain ⟨q0, q1, q2⟩ := unhide HCe WZ A9.bel
            have HV8 := hide (And.intro A9 ((unhide HR).2.bw bZ))
            clear K19 bZ A9 HR HCe p0 p1 p2
            obtain ⟨pn, pt, pg⟩ := p
            simp only at q0 q1 q2 ⊢
            cases pg
            all_goals
              go_wp2_with fail
              go_roundw
              case rel => exact ⟨i + 1, by omega, by go_num, HV8⟩
              case measure => simp only [intOf]; omega
          · have hii : ¬ (i : Int) < (LL : Int) := by omega
            have hA1 := rowB (by rw [← (unhide HC).2.2.2]; exact (unhide HR).1) (unhide HN1).1 (unhide HN1).2.2 (unhide HN1).2.1
            have K20 := hide (others_any (ca := cx) (cb := c1) (cc := capl) (unhide HR).2 hA1 ((unhide HL).bw (unhide HR).1.bel) (by rw [pairsOf_len]; exact (unhide HAY).2.2.2) (by rw [pairsOf_len]; exact (unhide HN1).2.1))
            rw [← (unhide HLe).2, ← unhide HLX] at K20
            have HO2 : Hid ((pairsOf m2 na).filter (outB l) = (pairsOf m1 ns1).filter (outB l)) := by
              have h := (unhide HAY).2.2.1
              unfold Hid
              rw [unhide HM2] at h ⊢
              exact others_eq (unhide HN1).1 h
            have HB8 := hide (unhide HR).1.bel
            clear hA1 HR
            go_wp2_with fail
            refine (unhide K20).mono ?_
            clear K20
            rintro e W30 ⟨zz, rfl, hzz, b30⟩
            obtain rfl : zz = true := hzz.2 (unhide HO2)
            have KA := hide (alive7_any W30)
            have HB9 := hide (bw_tr (unhide HB8) b30)
            clear hzz b30
            go_wp2_with (first | (go_at_call 14; refine (unhide KA).mono ?_; rintro e w3 ⟨rfl, b3⟩))
            go_ret
            exact ⟨rfl, bw_tr (unhide HB9) b3⟩
end Go.Proofs.YtckddmdgmjekdaaGreat
