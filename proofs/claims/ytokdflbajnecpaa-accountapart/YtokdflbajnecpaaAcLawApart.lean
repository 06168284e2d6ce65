/- AccountApart, the walk. -/
import Derived.Test.YtokdflbajnecpaaAcY
import Derived.Test.YtokdflbajnecpaaAcL
import Derived.Test.YtokdflbajnecpaaZ10
import Derived.Test.YtokdflbajnecpaaZ14
namespace Go.Proofs.Ytokdflbajnecpaa.Tn.Ax
open Go.RowKit Go.Maps
theorem ads_none (V : World) : Ads V (.slice none 0 0) [] := ⟨none, 0, rfl, by simp, by simp, Or.inl rfl⟩
theorem nis_three (W : World) (x0 x1 x2 : Nat) (hb : x0 ≤ 1048577 ∧ x1 ≤ 1048577 ∧ x2 ≤ 1048577) : NIs (W.alloc (.cells #[.int .i64 (x0 : Int), .int .i64 (x1 : Int), .int .i64 (x2 : Int)] 3)) (.slice (some ⟨W.heap.size, 0, none⟩) 3 3) [(x0 : Int), (x1 : Int), (x2 : Int)] := by
  refine ⟨_, _, rfl, by simp, fun z hz => ?_, Or.inr ⟨W.heap.size, 0, rfl, fun j u hj => ?_⟩⟩
  · simp at hz; omega
  · match j, hj with
    | 0, hj => cases hj; exact blk_cell (heap_alloc_new W _) rfl
    | 1, hj => cases hj; exact blk_cell (heap_alloc_new W _) rfl
    | 2, hj => cases hj; exact blk_cell (heap_alloc_new W _) rfl
set_option maxRecDepth 100000 in
set_option maxHeartbeats 16000000 in
theorem AccountApart_walk (w : World) (n : Int) (n1 : -9223372036854775808 ≤ n) (n2 : n ≤ 9223372036854775807) (g : Int) (hg : i64r g) (e : Int) (he : i64r e) (d : Int) (hd : i64r d) (aa : Option Addr) (ac : Nat) (ra : List Int) (hA : NIs w (.slice aa ra.length ac) ra) (g' : Int) (hg' : i64r g') (e' : Int) (he' : i64r e') (d' : Int) (hd' : i64r d') (ba : Option Addr) (bc : Nat) (rr : List Int) (hB : NIs w (.slice ba rr.length bc) rr) :
    Calls Try.prog 4 #[.int .i64 n, .agg #[.int .i64 g, .int .i64 e, .int .i64 d, .slice aa ra.length ac], .agg #[.int .i64 g', .int .i64 e', .int .i64 d', .slice ba rr.length bc]] w fun ee w' => ee = .returned (.bool true) ∧ Below w.heap.size w w' := by
  have hlA : ra.length ≤ 140737488355328 := by obtain ⟨_, _, _, h, _⟩ := hA; exact h
  have hlB : rr.length ≤ 140737488355328 := by obtain ⟨_, _, _, h, _⟩ := hB; exact h
  obtain ⟨N, hN⟩ : ∃ N, N = ra.length := ⟨_, rfl⟩
  obtain ⟨M, hM⟩ : ∃ M, M = rr.length := ⟨_, rfl⟩
  rw [← hN] at hA hlA ⊢
  rw [← hM] at hB hlB ⊢
  have hNI : (N : Int) ≤ 140737488355328 := by omega
  have hMI : (M : Int) ≤ 140737488355328 := by omega
  obtain ⟨w0, hw0⟩ : ∃ w0, w0 = (w.alloc (.cells #[.int .i64 g, .int .i64 e, .int .i64 d, .slice aa N ac] 52)).alloc (.cells #[.int .i64 g', .int .i64 e', .int .i64 d', .slice ba M bc] 52) := ⟨_, rfl⟩
  obtain ⟨y0, y1, x0⟩ := blk2 w (.cells #[.int .i64 g, .int .i64 e, .int .i64 d, .slice aa N ac] 52) (.cells #[.int .i64 g', .int .i64 e', .int .i64 d', .slice ba M bc] 52)
  rw [← hw0] at y0 y1 x0
  have YY : Hid (∀ W, Below w0.heap.size w0 W → (W.cell? ⟨w.heap.size, 0, none⟩ = some (.int .i64 g) ∧ W.cell? ⟨w.heap.size, 1, none⟩ = some (.int .i64 e) ∧ W.cell? ⟨w.heap.size, 2, none⟩ = some (.int .i64 d) ∧ W.cell? ⟨w.heap.size, 3, none⟩ = some (.slice aa N ac)) ∧ (W.cell? ⟨w.heap.size + 1, 0, none⟩ = some (.int .i64 g') ∧ W.cell? ⟨w.heap.size + 1, 1, none⟩ = some (.int .i64 e') ∧ W.cell? ⟨w.heap.size + 1, 2, none⟩ = some (.int .i64 d') ∧ W.cell? ⟨w.heap.size + 1, 3, none⟩ = some (.slice ba M bc))) := fun W hW => by
    have k0 := kept_blk y0 hW
    have k1 := kept_blk y1 hW
    exact ⟨⟨blk_cell k0 rfl, blk_cell k0 rfl, blk_cell k0 rfl, blk_cell k0 rfl⟩, ⟨blk_cell k1 rfl, blk_cell k1 rfl, blk_cell k1 rfl, blk_cell k1 rfl⟩⟩
  obtain ⟨⟨c0, c1, c2, c3⟩, ⟨d0, d1, d2, d3⟩⟩ := unhide YY w0 (Below.refl _ _)
  have B0 := hide x0
  have HW := hide hw0
  have HH := hide (And.intro hA (And.intro hB (And.intro hN hM)))
  have HI := hide (And.intro hg (And.intro he (And.intro hd (And.intro hg' (And.intro he' hd')))))
  clear hA hB hN hM hw0 y0 y1 x0 hlA hlB hg he hd hg' he' hd'
  by_cases hn : n < 0
  · have hn' : decide (n < 0) = true := decide_eq_true hn
    clear YY HH HI n1 n2
    go_enter Try.func4, Try.ntmps4
    go_upto_region 1 with fail
    rw [← unhide HW]
    clear HW
    go_wp2
    go_ret
    exact ⟨rfl, unhide B0⟩
  have hn' : decide (n < 0) = false := decide_eq_false hn
  have hn0 : 0 ≤ n := by omega
  by_cases hN8 : 8 < N
  · have hN8' : (8 : Int) < (N : Int) := by omega
    clear YY HH HI n1 n2 hn
    go_enter Try.func4, Try.ntmps4
    go_upto_region 1 with fail
    rw [← unhide HW]
    clear HW
    go_wp2
    go_ret
    exact ⟨rfl, unhide B0⟩
  have hN8' : (N : Int) ≤ 8 := by omega
  by_cases hM8 : 8 < M
  · have hM8' : (8 : Int) < (M : Int) := by omega
    clear YY HH HI n1 n2 hn
    go_enter Try.func4, Try.ntmps4
    go_upto_region 1 with fail
    rw [← unhide HW]
    clear HW
    go_wp2
    go_ret
    exact ⟨rfl, unhide B0⟩
  have hM8' : (M : Int) ≤ 8 := by omega
  obtain ⟨hA, hB, hN, hM⟩ := unhide HH
  obtain ⟨hg, he, hd, hg', he', hd'⟩ := unhide HI
  have KB := hide (build13 w0 n hn0 n2)
  have i0 : Iv (lvL n) := iv_one hn0
  have l0 : (lvL n).length = 1 := rfl
  obtain ⟨z1, i1, p1, q1⟩ := dig_at (rem := ra) i0 (by omega) (by omega)
  have r1 := digP_rng (L := lvL n) [] ra (by omega)
  obtain ⟨P1, hP1⟩ : ∃ P1, P1 = digP (lvL n) [] ra := ⟨_, rfl⟩
  rw [← hP1] at i1 p1 q1 r1
  obtain ⟨z2, i2, p2, q2⟩ := dig_at (rem := rr) i1 (by omega) (by omega)
  have r2 := digP_rng (L := P1.1) [] rr (by omega)
  obtain ⟨P2, hP2⟩ : ∃ P2, P2 = digP P1.1 [] rr := ⟨_, rfl⟩
  rw [← hP2] at i2 p2 q2 r2
  obtain ⟨z3, i3, p3, q3⟩ := seed_at i2 (q1.pub.pre p2) g e d (by omega)
  have r3 := seedP_rng (L := P2.1) 1 g e d (P1.2 : Int) (by omega)
  obtain ⟨P3, hP3⟩ : ∃ P3, P3 = seedP P2.1 1 g e d (P1.2 : Int) := ⟨_, rfl⟩
  rw [← hP3] at i3 p3 q3 r3
  obtain ⟨z4, i4, p4, q4⟩ := seed_at i3 (q2.pub.pre p3) g' e' d' (by omega)
  have r4 := seedP_rng (L := P3.1) 1 g' e' d' (P2.2 : Int) (by omega)
  obtain ⟨P4, hP4⟩ : ∃ P4, P4 = seedP P3.1 1 g' e' d' (P2.2 : Int) := ⟨_, rfl⟩
  rw [← hP4] at i4 p4 q4 r4
  obtain ⟨z5, i5, p5, q5⟩ := card_at i4 (by omega)
  have r5 := card_rng P4.1 1
  obtain ⟨L5, hL5⟩ : ∃ L5, L5 = cardL P4.1 1 := ⟨_, rfl⟩
  obtain ⟨XA, hXA⟩ : ∃ XA, XA = cardA P4.1 1 := ⟨_, rfl⟩
  rw [← hL5] at i5 p5 q5 r5
  rw [← hXA] at q5 r5
  obtain ⟨z6, i6, p6, q6⟩ := own_at i5 (by omega)
  have r6 := own_rng L5 1
  obtain ⟨L6, hL6⟩ : ∃ L6, L6 = ownL L5 1 := ⟨_, rfl⟩
  obtain ⟨X6, hX6⟩ : ∃ X6, X6 = ownA L5 1 := ⟨_, rfl⟩
  rw [← hL6] at i6 p6 q6 r6
  rw [← hX6] at q6 r6
  have hxy : P1.2 = P2.2 ↔ ra = rr := (q1.pre p2).eq_iff i2.good q2
  have hpq : P3.2 = P4.2 ↔ g = g' ∧ e = e' ∧ d = d' ∧ P1.2 = P2.2 := (q3.pre p4).eq_iff i4.good q4
  rw [hxy] at hpq
  obtain ⟨hs1, hs2⟩ := has_seeds i6 (((q3.pre p4).pre p5).pre p6) ((q4.pre p5).pre p6) (q5.pre p6) q6
  have fA : ∀ V, Below w0.heap.size w0 V → NIs V (.slice aa N ac) ra := fun V hV => (NIs.bw hA (unhide B0)).bw hV
  have fB : ∀ V, Below w0.heap.size w0 V → NIs V (.slice ba M bc) rr := fun V hV => (NIs.bw hB (unhide B0)).bw hV
  have K1 : Hid (∀ W b sv mb rb rv, Two w0 W b sv mb rb rv (lvL n) (lvL n) → Calls Try.prog 9 #[.pointer (some ⟨b, 0, none⟩), .slice none 0 0, .slice aa N ac] W fun e W' => e = .returned (.tuple #[.int .i64 (P1.2 : Nat), .int .i64 0]) ∧ ∃ sv', Two w0 W' b sv' mb rb rv P1.1 (lvL n)) := fun W b sv mb rb rv T => by
    have := digest_any T.st _ [] (fun V _ => ads_none V) _ ra (fun V hV => fA V (Fr.toBase T.bel hV T.low)) (by omega)
    rw [← hP1, z1] at this
    refine Calls.mono this ?_
    rintro e W' ⟨h1, sv', s⟩
    exact ⟨h1, sv', T.stepS s⟩
  have K2 : Hid (∀ W b sv mb rb rv, Two w0 W b sv mb rb rv P1.1 (lvL n) → Calls Try.prog 9 #[.pointer (some ⟨b, 0, none⟩), .slice none 0 0, .slice ba M bc] W fun e W' => e = .returned (.tuple #[.int .i64 (P2.2 : Nat), .int .i64 0]) ∧ ∃ sv', Two w0 W' b sv' mb rb rv P2.1 (lvL n)) := fun W b sv mb rb rv T => by
    have := digest_any T.st _ [] (fun V _ => ads_none V) _ rr (fun V hV => fB V (Fr.toBase T.bel hV T.low)) (by omega)
    rw [← hP2, z2] at this
    refine Calls.mono this ?_
    rintro e W' ⟨h1, sv', s⟩
    exact ⟨h1, sv', T.stepS s⟩
  have K3 : Hid (∀ W b sv mb rb rv, Two w0 W b sv mb rb rv P2.1 (lvL n) → Calls Try.prog 11 #[.pointer (some ⟨b, 0, none⟩), .int .i64 1, .int .i64 g, .int .i64 e, .int .i64 d, .int .i64 (P1.2 : Nat)] W fun e W' => e = .returned (.tuple #[.int .i64 (P3.2 : Nat), .int .i64 0]) ∧ ∃ sv', Two w0 W' b sv' mb rb rv P3.1 (lvL n)) := fun W b sv mb rb rv T => by
    have := seed_any T.st 1 g e d (P1.2 : Int) hg he hd (by omega)
    rw [← hP3, z3] at this
    refine Calls.mono this ?_
    rintro e W' ⟨h1, sv', s⟩
    exact ⟨h1, sv', T.stepS s⟩
  have K4 : Hid (∀ W b sv mb rb rv, Two w0 W b sv mb rb rv P3.1 (lvL n) → Calls Try.prog 11 #[.pointer (some ⟨b, 0, none⟩), .int .i64 1, .int .i64 g', .int .i64 e', .int .i64 d', .int .i64 (P2.2 : Nat)] W fun e W' => e = .returned (.tuple #[.int .i64 (P4.2 : Nat), .int .i64 0]) ∧ ∃ sv', Two w0 W' b sv' mb rb rv P4.1 (lvL n)) := fun W b sv mb rb rv T => by
    have := seed_any T.st 1 g' e' d' (P2.2 : Int) hg' he' hd' (by omega)
    rw [← hP4, z4] at this
    refine Calls.mono this ?_
    rintro e W' ⟨h1, sv', s⟩
    exact ⟨h1, sv', T.stepS s⟩
  obtain ⟨XB, hXB⟩ : ∃ XB, XB = cardB P4.1 1 := ⟨_, rfl⟩
  have K5 : Hid (∀ W b sv mb rb rv, Two w0 W b sv mb rb rv P4.1 (lvL n) → Calls Try.prog 13 #[.pointer (some ⟨b, 0, none⟩), .int .i64 1] W fun e W' => e = .returned (.tuple #[.int .i64 (XA : Nat), .int .i64 (XB : Nat), .int .i64 0]) ∧ ∃ sv', Two w0 W' b sv' mb rb rv L5 (lvL n)) := fun W b sv mb rb rv T => by
    have := ccard_any T.st 1 (by omega)
    rw [← hL5, ← hXA, ← hXB, z5] at this
    refine Calls.mono this ?_
    rintro e W' ⟨h1, sv', s⟩
    exact ⟨h1, sv', T.stepS s⟩
  have K6 : Hid (∀ W b sv mb rb rv, Two w0 W b sv mb rb rv L5 (lvL n) → Calls Try.prog 15 #[.pointer (some ⟨b, 0, none⟩), .int .i64 1] W fun e W' => e = .returned (.tuple #[.int .i64 (X6 : Nat), .int .i64 0]) ∧ ∃ sv', Two w0 W' b sv' mb rb rv L6 (lvL n)) := fun W b sv mb rb rv T => by
    have := own_any T.st 1 (by omega)
    rw [← hL6, ← hX6, z6] at this
    refine Calls.mono this ?_
    rintro e W' ⟨h1, sv', s⟩
    exact ⟨h1, sv', T.stepS s⟩
  obtain ⟨EK, hEK⟩ : ∃ EK : World → Nat → Prop, EK = fun W kb => ∃ b sv mb rb rv Z, Env w0 W (resK kb b L6 (fun m => (m : Int) ∈ [(P3.2 : Int), (XA : Int), (X6 : Int)]) Z :: resS b sv mb L6 :: [resR rb rv (lvL n)]) := ⟨_, rfl⟩
  have a3 : At L6 P3.2 _ := (((q3.pre p4).pre p5).pre p6).choose_spec.choose_spec.choose_spec.choose_spec.1
  have a5 := q5.pre p6
  have hnew : newE L6 [(P3.2 : Int), (XA : Int), (X6 : Int)] = 0 := by
    unfold newE
    rw [if_pos]
    have h3 := a3.le
    have h5 := a5.le
    have h6 := q6.le
    simp only [List.all_cons, List.all_nil, Bool.and_true, Bool.and_eq_true]
    exact ⟨thr_iff.2 (by omega), thr_iff.2 (by omega), thr_iff.2 (by omega)⟩
  have K7 : Hid (∀ W b sv mb rb rv, Two w0 W b sv mb rb rv L6 (lvL n) → Calls Try.prog 23 #[.pointer (some ⟨b, 0, none⟩), .slice (some ⟨W.heap.size, 0, none⟩) 3 3] (W.alloc (.cells #[.int .i64 (P3.2 : Int), .int .i64 (XA : Int), .int .i64 (X6 : Int)] 3)) fun e W' => ∃ kb, e = .returned (.tuple #[.pointer (some ⟨kb, 0, none⟩), .int .i64 0]) ∧ EK W' kb) := fun W b sv mb rb rv T => by
    have E1 := (Env.ofTwo T).new (bwA' W (.cells #[.int .i64 (P3.2 : Int), .int .i64 (XA : Int), .int .i64 (X6 : Int)] 3))
    have := env_new E1 (some ⟨W.heap.size, 0, none⟩) 3 [(P3.2 : Int), (XA : Int), (X6 : Int)] (nis_three W P3.2 XA X6 (by omega)) (by simp)
    refine Calls.mono this ?_
    rintro e W' ⟨p, h1, h2⟩
    rw [hnew] at h1 h2
    rcases h2 with ⟨c, _⟩ | ⟨_, kb, Z, rfl, E⟩
    · cases c
    · exact ⟨kb, h1, by rw [hEK]; exact ⟨b, sv, mb, rb, rv, Z, E⟩⟩
  have K8 : Hid (∀ W kb, EK W kb → Calls Try.prog 24 #[.pointer (some ⟨kb, 0, none⟩), .int .i64 (P4.2 : Nat)] W fun e W' => e = .returned (.bool (decide (P3.2 = P4.2))) ∧ EK W' kb) := fun W kb h => by
    rw [hEK] at h ⊢
    obtain ⟨b, sv, mb, rb, rv, Z, E⟩ := h
    have := env_has E (P4.2 : Int)
    rw [hs1] at this
    refine Calls.mono this ?_
    rintro e W' ⟨h1, Z', E'⟩
    exact ⟨h1, b, sv, mb, rb, rv, Z', E'⟩
  have K9 : Hid (∀ W kb, EK W kb → Calls Try.prog 24 #[.pointer (some ⟨kb, 0, none⟩), .int .i64 1] W fun e W' => e = .returned (.bool false) ∧ Below w0.heap.size w0 W') := fun W kb h => by
    rw [hEK] at h
    obtain ⟨b, sv, mb, rb, rv, Z, E⟩ := h
    have := env_has E 1
    rw [hs2] at this
    refine Calls.mono this ?_
    rintro e W' ⟨h1, Z', E'⟩
    exact ⟨h1, E'.bel⟩
  have KSm : Hid (∀ W, Below w0.heap.size w0 W → Calls Try.prog 22 #[.slice aa N ac, .slice ba M bc] W fun e w' => e = .returned (.bool (decide (ra = rr))) ∧ Below W.heap.size W w') := fun W hW => snums_any _ _ ra rr W (fA W hW) (fB W hW)
  have KE : Hid (∀ W, Below w0.heap.size w0 W → Calls Try.prog 21 #[] W fun e w' => e = .returned (.bool true) ∧ Below w.heap.size w w') := fun W hW => lives13 (bw_tr (unhide B0) hW)
  have HXY := hide hxy
  have HPQ := hide hpq
  clear hA hB hN hM hg he hd hg' he' hd' i0 l0 z1 i1 p1 q1 r1 hP1 z2 i2 p2 q2 r2 hP2 z3 i3 p3 q3 r3 hP3 z4 i4 p4 q4 r4 hP4 z5 i5 p5 q5 r5 hL5 hXA z6 i6 p6 q6 r6 hL6 hX6 hxy hpq hs1 hs2 fA fB hXB hEK a3 a5 hnew HH HI n1 n2 hn0 hn hN8 hM8
  obtain ⟨x, hx⟩ : ∃ x, x = P1.2 := ⟨_, rfl⟩
  obtain ⟨y, hy⟩ : ∃ y, y = P2.2 := ⟨_, rfl⟩
  obtain ⟨p, hp⟩ : ∃ p, p = P3.2 := ⟨_, rfl⟩
  obtain ⟨q, hq⟩ : ∃ q, q = P4.2 := ⟨_, rfl⟩
  rw [← hx] at K1 K3 HXY
  rw [← hy] at K2 K4 HXY
  rw [← hp] at K3 K7 K8 HPQ
  rw [← hq] at K4 K8 HPQ
  clear hx hy hp hq
  generalize P1.1 = L1 at *
  generalize P2.1 = L2 at *
  generalize P3.1 = L3 at *
  generalize P4.1 = L4 at *
  generalize lvL n = LV at *
  go_enter Try.func4, Try.ntmps4
  go_upto_region 1 with fail
  rw [← unhide HW]
  clear HW
  go_wp2_with fail
  refine (unhide KB).mono ?_
  rintro ee w1 ⟨b, sv, mb, rb, rv, rfl, T1⟩
  obtain ⟨⟨c0, c1, c2, c3⟩, ⟨d0, d1, d2, d3⟩⟩ := unhide YY w1 T1.bel
  have Q1 := hide (unhide K1 _ _ _ _ _ _ T1)
  clear T1 KB K1
  go_wp2_with fail
  refine (unhide Q1).mono ?_
  rintro ee w2 ⟨rfl, sv2, T2⟩
  obtain ⟨⟨c0, c1, c2, c3⟩, ⟨d0, d1, d2, d3⟩⟩ := unhide YY w2 T2.bel
  have Q2 := hide (unhide K2 _ _ _ _ _ _ T2)
  clear T2 Q1 K2
  go_wp2_with fail
  refine (unhide Q2).mono ?_
  rintro ee w3 ⟨rfl, sv3, T3⟩
  obtain ⟨⟨c0, c1, c2, c3⟩, ⟨d0, d1, d2, d3⟩⟩ := unhide YY w3 T3.bel
  have Q3 := hide (unhide K3 _ _ _ _ _ _ T3)
  clear T3 Q2 K3
  go_wp2_with fail
  refine (unhide Q3).mono ?_
  rintro ee w4 ⟨rfl, sv4, T4⟩
  obtain ⟨⟨c0, c1, c2, c3⟩, ⟨d0, d1, d2, d3⟩⟩ := unhide YY w4 T4.bel
  have Q4 := hide (unhide K4 _ _ _ _ _ _ T4)
  clear T4 Q3 K4
  go_wp2_with fail
  refine (unhide Q4).mono ?_
  rintro ee w5 ⟨rfl, sv5, T5⟩
  have Q5 := hide (unhide K5 _ _ _ _ _ _ T5)
  clear T5 Q4 K5
  go_wp2_with fail
  refine (unhide Q5).mono ?_
  rintro ee w6 ⟨rfl, sv6, T6⟩
  have Q6 := hide (unhide K6 _ _ _ _ _ _ T6)
  clear T6 Q5 K6
  go_wp2_with fail
  refine (unhide Q6).mono ?_
  rintro ee w7 ⟨rfl, sv7, T7⟩
  obtain ⟨⟨c0, c1, c2, c3⟩, ⟨d0, d1, d2, d3⟩⟩ := unhide YY w7 T7.bel
  have KS7 := hide (unhide KSm _ T7.bel)
  have HT := hide T7
  clear T7 Q6
  have HN : Hid (∀ W, Below w7.heap.size w7 W → (W.cell? ⟨w.heap.size, 3, none⟩ = some (.slice aa N ac) ∧ W.cell? ⟨w.heap.size + 1, 3, none⟩ = some (.slice ba M bc)) ∧ Calls Try.prog 23 #[.pointer (some ⟨b, 0, none⟩), .slice (some ⟨W.heap.size, 0, none⟩) 3 3] (W.alloc (.cells #[.int .i64 (p : Int), .int .i64 (XA : Int), .int .i64 (X6 : Int)] 3)) (fun e W' => ∃ kb, e = .returned (.tuple #[.pointer (some ⟨kb, 0, none⟩), .int .i64 0]) ∧ EK W' kb) ∧ Below w0.heap.size w0 W) := fun W hW => by
    have h := unhide YY W (bw_tr (unhide HT).bel hW)
    exact ⟨⟨h.1.2.2.2, h.2.2.2.2⟩, unhide K7 _ _ _ _ _ _ ((unhide HT).new hW), bw_tr (unhide HT).bel hW⟩
  obtain ⟨r, hr⟩ : ∃ r, r = decide (ra = rr) := ⟨_, rfl⟩
  rw [← hr] at KS7 KSm
  have HR := hide hr
  clear hr YY K7 HT
  go_upto_region 12 with fail
  by_cases hall : g = g' ∧ e = e' ∧ d = d'
  · obtain ⟨rfl, rfl, rfl⟩ := hall
    cases r
    · have hne : ra ≠ rr := of_decide_eq_false (unhide HR).symm
      have hxy : x ≠ y := fun c => hne ((unhide HXY).1 c)
      have hpq : p ≠ q := fun c => hne ((unhide HPQ).1 c).2.2.2
      have e1 : decide ((x : Int) = (y : Int)) = false := decide_eq_false (by omega)
      have e2 : ((x : Int) == (y : Int)) = false := by simp; omega
      have e3 : decide ((p : Int) = (q : Int)) = false := decide_eq_false (by omega)
      have e4 : ((p : Int) == (q : Int)) = false := by simp; omega
      have e5 : decide (p = q) = false := decide_eq_false hpq
      rw [e5] at K8
      clear HXY HPQ HR hne hxy hpq e5
      go_wp2_with fail
      refine (unhide KS7).mono ?_
      rintro ee w8 ⟨rfl, b8⟩
      obtain ⟨⟨c3, d3⟩, k8, b08⟩ := unhide HN w8 b8
      have B8 := hide b8
      have KS8 := hide (unhide KSm w8 b08)
      clear KS7 b8 k8 b08
      go_wp2_with fail
      refine (unhide KS8).mono ?_
      rintro ee w9 ⟨rfl, b9⟩
      obtain ⟨-, k9, -⟩ := unhide HN w9 (bw_tr (unhide B8) b9)
      have Q9 := hide k9
      clear KS8 b9 k9 B8
      go_wp2_with fail
      refine (unhide Q9).mono ?_
      rintro ee w10 ⟨kb, rfl, E10⟩
      have Q10 := hide (unhide K8 _ _ E10)
      clear E10 Q9
      go_wp2_with fail
      refine (unhide Q10).mono ?_
      rintro ee w11 ⟨rfl, E11⟩
      have Q11 := hide (unhide K9 _ _ E11)
      clear E11 Q10
      go_wp2_with fail
      refine (unhide Q11).mono ?_
      rintro ee w12 ⟨rfl, b12⟩
      have Q12 := hide (unhide KE _ b12)
      clear b12 Q11
      go_wp2_with fail
      refine (unhide Q12).mono ?_
      rintro ee w13 ⟨rfl, b13⟩
      go_wp2
      go_ret
      exact ⟨rfl, b13⟩
    · have heq : ra = rr := of_decide_eq_true (unhide HR).symm
      have hxy : x = y := (unhide HXY).2 heq
      have hpq : p = q := (unhide HPQ).2 ⟨rfl, rfl, rfl, heq⟩
      subst hxy
      subst hpq
      rw [show decide (p = p) = true from decide_eq_true rfl] at K8
      clear HXY HPQ HR heq
      go_wp2_with fail
      refine (unhide KS7).mono ?_
      rintro ee w8 ⟨rfl, b8⟩
      obtain ⟨⟨c3, d3⟩, k8, b08⟩ := unhide HN w8 b8
      have B8 := hide b8
      have KS8 := hide (unhide KSm w8 b08)
      clear KS7 b8 k8 b08
      go_wp2_with fail
      refine (unhide KS8).mono ?_
      rintro ee w9 ⟨rfl, b9⟩
      obtain ⟨-, k9, -⟩ := unhide HN w9 (bw_tr (unhide B8) b9)
      have Q9 := hide k9
      clear KS8 b9 k9 B8
      go_wp2_with fail
      refine (unhide Q9).mono ?_
      rintro ee w10 ⟨kb, rfl, E10⟩
      have Q10 := hide (unhide K8 _ _ E10)
      clear E10 Q9
      go_wp2_with fail
      refine (unhide Q10).mono ?_
      rintro ee w11 ⟨rfl, E11⟩
      have Q11 := hide (unhide K9 _ _ E11)
      clear E11 Q10
      go_wp2_with fail
      refine (unhide Q11).mono ?_
      rintro ee w12 ⟨rfl, b12⟩
      have Q12 := hide (unhide KE _ b12)
      clear b12 Q11
      go_wp2_with fail
      refine (unhide Q12).mono ?_
      rintro ee w13 ⟨rfl, b13⟩
      go_wp2
      go_ret
      exact ⟨rfl, b13⟩
  · have hpq : p ≠ q := fun c => hall (by obtain ⟨h1, h2, h3, _⟩ := (unhide HPQ).1 c; exact ⟨h1, h2, h3⟩)
    have e3 : decide ((p : Int) = (q : Int)) = false := decide_eq_false (by omega)
    have e4 : ((p : Int) == (q : Int)) = false := by simp; omega
    have e5 : decide (p = q) = false := decide_eq_false hpq
    rw [e5] at K8
    have B8 : Hid (Below w7.heap.size w7 w7) := Below.refl _ _
    have KS8 := hide (unhide KS7)
    clear KS7 hpq e5 HPQ
    have hcase : g ≠ g' ∨ (g = g' ∧ e ≠ e') ∨ (g = g' ∧ e = e' ∧ d ≠ d') := by
      by_cases a1 : g = g'
      · by_cases a2 : e = e'
        · exact Or.inr (Or.inr ⟨a1, a2, fun a3 => hall ⟨a1, a2, a3⟩⟩)
        · exact Or.inr (Or.inl ⟨a1, a2⟩)
      · exact Or.inl a1
    cases r
    · have hne : ra ≠ rr := of_decide_eq_false (unhide HR).symm
      have hxy : x ≠ y := fun c => hne ((unhide HXY).1 c)
      have e1 : decide ((x : Int) = (y : Int)) = false := decide_eq_false (by omega)
      have e2 : ((x : Int) == (y : Int)) = false := by simp; omega
      clear HXY HR hne hxy hall
      rcases hcase with a1 | ⟨rfl, a2⟩ | ⟨rfl, rfl, a3⟩
      · have u1 : decide (g = g') = false := decide_eq_false a1
        have u2 : (g == g') = false := by simpa using a1
        clear a1
        go_wp2_with fail
        refine (unhide KS8).mono ?_
        rintro ee w9 ⟨rfl, b9⟩
        obtain ⟨-, k9, -⟩ := unhide HN w9 (bw_tr (unhide B8) b9)
        have Q9 := hide k9
        clear KS8 b9 k9 B8
        go_wp2_with fail
        refine (unhide Q9).mono ?_
        rintro ee w10 ⟨kb, rfl, E10⟩
        have Q10 := hide (unhide K8 _ _ E10)
        clear E10 Q9
        go_wp2_with fail
        refine (unhide Q10).mono ?_
        rintro ee w11 ⟨rfl, E11⟩
        have Q11 := hide (unhide K9 _ _ E11)
        clear E11 Q10
        go_wp2_with fail
        refine (unhide Q11).mono ?_
        rintro ee w12 ⟨rfl, b12⟩
        have Q12 := hide (unhide KE _ b12)
        clear b12 Q11
        go_wp2_with fail
        refine (unhide Q12).mono ?_
        rintro ee w13 ⟨rfl, b13⟩
        go_wp2
        go_ret
        exact ⟨rfl, b13⟩
      · have u1 : decide (e = e') = false := decide_eq_false a2
        have u2 : (e == e') = false := by simpa using a2
        clear a2
        go_wp2_with fail
        refine (unhide KS8).mono ?_
        rintro ee w9 ⟨rfl, b9⟩
        obtain ⟨-, k9, -⟩ := unhide HN w9 (bw_tr (unhide B8) b9)
        have Q9 := hide k9
        clear KS8 b9 k9 B8
        go_wp2_with fail
        refine (unhide Q9).mono ?_
        rintro ee w10 ⟨kb, rfl, E10⟩
        have Q10 := hide (unhide K8 _ _ E10)
        clear E10 Q9
        go_wp2_with fail
        refine (unhide Q10).mono ?_
        rintro ee w11 ⟨rfl, E11⟩
        have Q11 := hide (unhide K9 _ _ E11)
        clear E11 Q10
        go_wp2_with fail
        refine (unhide Q11).mono ?_
        rintro ee w12 ⟨rfl, b12⟩
        have Q12 := hide (unhide KE _ b12)
        clear b12 Q11
        go_wp2_with fail
        refine (unhide Q12).mono ?_
        rintro ee w13 ⟨rfl, b13⟩
        go_wp2
        go_ret
        exact ⟨rfl, b13⟩
      · have u1 : decide (d = d') = false := decide_eq_false a3
        have u2 : (d == d') = false := by simpa using a3
        clear a3
        go_wp2_with fail
        refine (unhide KS8).mono ?_
        rintro ee w9 ⟨rfl, b9⟩
        obtain ⟨-, k9, -⟩ := unhide HN w9 (bw_tr (unhide B8) b9)
        have Q9 := hide k9
        clear KS8 b9 k9 B8
        go_wp2_with fail
        refine (unhide Q9).mono ?_
        rintro ee w10 ⟨kb, rfl, E10⟩
        have Q10 := hide (unhide K8 _ _ E10)
        clear E10 Q9
        go_wp2_with fail
        refine (unhide Q10).mono ?_
        rintro ee w11 ⟨rfl, E11⟩
        have Q11 := hide (unhide K9 _ _ E11)
        clear E11 Q10
        go_wp2_with fail
        refine (unhide Q11).mono ?_
        rintro ee w12 ⟨rfl, b12⟩
        have Q12 := hide (unhide KE _ b12)
        clear b12 Q11
        go_wp2_with fail
        refine (unhide Q12).mono ?_
        rintro ee w13 ⟨rfl, b13⟩
        go_wp2
        go_ret
        exact ⟨rfl, b13⟩
    · have heq : ra = rr := of_decide_eq_true (unhide HR).symm
      have hxy : x = y := (unhide HXY).2 heq
      subst hxy
      clear HXY HR heq hall
      rcases hcase with a1 | ⟨rfl, a2⟩ | ⟨rfl, rfl, a3⟩
      · have u1 : decide (g = g') = false := decide_eq_false a1
        have u2 : (g == g') = false := by simpa using a1
        clear a1
        go_wp2_with fail
        refine (unhide KS8).mono ?_
        rintro ee w9 ⟨rfl, b9⟩
        obtain ⟨-, k9, -⟩ := unhide HN w9 (bw_tr (unhide B8) b9)
        have Q9 := hide k9
        clear KS8 b9 k9 B8
        go_wp2_with fail
        refine (unhide Q9).mono ?_
        rintro ee w10 ⟨kb, rfl, E10⟩
        have Q10 := hide (unhide K8 _ _ E10)
        clear E10 Q9
        go_wp2_with fail
        refine (unhide Q10).mono ?_
        rintro ee w11 ⟨rfl, E11⟩
        have Q11 := hide (unhide K9 _ _ E11)
        clear E11 Q10
        go_wp2_with fail
        refine (unhide Q11).mono ?_
        rintro ee w12 ⟨rfl, b12⟩
        have Q12 := hide (unhide KE _ b12)
        clear b12 Q11
        go_wp2_with fail
        refine (unhide Q12).mono ?_
        rintro ee w13 ⟨rfl, b13⟩
        go_wp2
        go_ret
        exact ⟨rfl, b13⟩
      · have u1 : decide (e = e') = false := decide_eq_false a2
        have u2 : (e == e') = false := by simpa using a2
        clear a2
        go_wp2_with fail
        refine (unhide KS8).mono ?_
        rintro ee w9 ⟨rfl, b9⟩
        obtain ⟨-, k9, -⟩ := unhide HN w9 (bw_tr (unhide B8) b9)
        have Q9 := hide k9
        clear KS8 b9 k9 B8
        go_wp2_with fail
        refine (unhide Q9).mono ?_
        rintro ee w10 ⟨kb, rfl, E10⟩
        have Q10 := hide (unhide K8 _ _ E10)
        clear E10 Q9
        go_wp2_with fail
        refine (unhide Q10).mono ?_
        rintro ee w11 ⟨rfl, E11⟩
        have Q11 := hide (unhide K9 _ _ E11)
        clear E11 Q10
        go_wp2_with fail
        refine (unhide Q11).mono ?_
        rintro ee w12 ⟨rfl, b12⟩
        have Q12 := hide (unhide KE _ b12)
        clear b12 Q11
        go_wp2_with fail
        refine (unhide Q12).mono ?_
        rintro ee w13 ⟨rfl, b13⟩
        go_wp2
        go_ret
        exact ⟨rfl, b13⟩
      · have u1 : decide (d = d') = false := decide_eq_false a3
        have u2 : (d == d') = false := by simpa using a3
        clear a3
        go_wp2_with fail
        refine (unhide KS8).mono ?_
        rintro ee w9 ⟨rfl, b9⟩
        obtain ⟨-, k9, -⟩ := unhide HN w9 (bw_tr (unhide B8) b9)
        have Q9 := hide k9
        clear KS8 b9 k9 B8
        go_wp2_with fail
        refine (unhide Q9).mono ?_
        rintro ee w10 ⟨kb, rfl, E10⟩
        have Q10 := hide (unhide K8 _ _ E10)
        clear E10 Q9
        go_wp2_with fail
        refine (unhide Q10).mono ?_
        rintro ee w11 ⟨rfl, E11⟩
        have Q11 := hide (unhide K9 _ _ E11)
        clear E11 Q10
        go_wp2_with fail
        refine (unhide Q11).mono ?_
        rintro ee w12 ⟨rfl, b12⟩
        have Q12 := hide (unhide KE _ b12)
        clear b12 Q11
        go_wp2_with fail
        refine (unhide Q12).mono ?_
        rintro ee w13 ⟨rfl, b13⟩
        go_wp2
        go_ret
        exact ⟨rfl, b13⟩
end Go.Proofs.Ytokdflbajnecpaa.Tn.Ax
