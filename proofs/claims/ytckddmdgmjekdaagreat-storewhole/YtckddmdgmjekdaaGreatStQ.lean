/- The walk of StoreTells. -/
import Derived.Test.YtckddmdgmjekdaaGreatStU
namespace Go.Proofs.YtckddmdgmjekdaaGreat
open Go.RowKit Go.Maps

theorem solid_P (v : Value) (l : List PP) : Solid (resP v l) := by
  intro W hP x hx o ho
  have hP : PRow W v l := hP
  have hx : v.ownBlock = some x := by simpa [resP] using hx
  obtain ⟨cur, hc⟩ := own_kind hP hx
  rw [hc] at ho; cases ho; rfl
/-- A row of pairs is kept beside a Store. -/
theorem SX.keep {x : SX} {w W W' : World} {rs : List Res} (h : Env w W (x.res ++ rs)) {v : Value} {l : List PP} (hQ : QRow W W' v l) : Env w W' (x.res ++ (resP v l :: rs)) := by
  have h1 := h.add (resP v l) hQ.bel hQ.row (fun k hk => hQ.new k (by simpa [resP] using hk))
  exact h1.perm List.perm_middle.symm
theorem SX.kept {x : SX} {w W : World} {rs : List Res} {v : Value} {l : List PP} (h : Env w W (x.res ++ (resP v l :: rs))) : PRow W v l := h.hold (resP v l) (by simp)
theorem fit_of {m : MM} {ns : List ByteArray} (h : Nm m ns) (hf : Fits m) : ∀ p ∈ pairsOf m ns, p.n.size ≤ 140737488355328 ∧ p.t.size ≤ 140737488355328 := fun p hp => by have := pairsOf_fit h hf p hp; omega
theorem pairsOf_len (m : MM) (ns : List ByteArray) : (pairsOf m ns).length = ns.length := by simp [pairsOf]
set_option maxRecDepth 100000 in
set_option maxHeartbeats 8000000 in
theorem StoreTells_walk (w : World) (ao : Option Addr) (capo : Nat) (old : List PP) (ho : PrsAt w ao old) (al : Option Addr) (capl : Nat) (l : List PP) (hl : PrsAt w al l) :
    Calls Tryz.prog 5 #[.slice ao old.length capo, .slice al l.length capl] w fun e w' => e = .returned (.bool true) ∧ Below w.heap.size w w' := by
  have K1 := hide (size_any (cap := capo) ho)
  have K2 := hide (fun (W : World) (hW : Below w.heap.size w W) => size_any (cap := capl) (hl.bw hW))
  have HO := hide ho
  have HL := hide hl
  clear ho hl
  obtain ⟨LO, hLO⟩ : ∃ L, L = old.length := ⟨_, rfl⟩
  obtain ⟨LL, hLL⟩ : ∃ L, L = l.length := ⟨_, rfl⟩
  have HLe := hide (And.intro hLO hLL)
  rw [← hLO] at K1 ⊢
  rw [← hLL] at K2 ⊢
  clear hLO hLL
  go_enter Tryz.func5, Tryz.ntmps5
  go_wp2_with fail
  refine (unhide K1).mono ?_
  rintro e W1 ⟨N, rfl, hN1, hN2, b1⟩
  have K3 := hide (unhide K2 W1 b1)
  have HB0 := hide b1
  clear K1 K2 b1
  go_wp2_with fail
  refine (unhide K3).mono ?_
  rintro e W2 ⟨M, rfl, hM1, hM2, b2⟩
  obtain ⟨X1, hX1⟩ : ∃ X, X = W2.alloc (.cells #[.int .i64 (N : Int), .int .i64 (M : Int)] 3) := ⟨_, rfl⟩
  have q1 : X1.heap[W2.heap.size]? = some (.cells #[.int .i64 (N : Int), .int .i64 (M : Int)] 3 (0, 0)) := by rw [hX1]; exact heap_alloc_new _ _
  have KB := hide (beyond7_two W2.heap.size N M 2 X1 hN2 hM2 (by simp [World.cell?, q1]) (by simp [World.cell?, q1]))
  have HB1 : Hid (Below w.heap.size w X1) := bw_tr (bw_tr (unhide HB0) b2) (by rw [hX1]; exact bw_alloc _ _)
  have HNM := hide (And.intro hN1 hM1)
  have HX1 := hide hX1
  clear K3 HB0 b2 q1 hN1 hN2 hM1 hM2
  go_wp2_with fail
  rw [← unhide HX1]
  clear hX1
  refine (unhide KB).mono ?_
  rintro e w2 ⟨rfl, rfl⟩
  clear KB HX1
  by_cases hbig : 262144 < N + M
  · rw [decide_eq_true hbig]
    go_wp2_with fail
    go_ret
    exact ⟨rfl, unhide HB1⟩
  rw [decide_eq_false hbig]
  have HLe2 : Hid (old.length ≤ 262144 ∧ l.length ≤ 262144) := by have h1 := unhide HNM; have h2 := unhide HLe; exact ⟨by omega, by omega⟩
  clear hbig HNM
  have K1 := hide (ED.start ((Env.nil w).new (unhide HB1)) 200 (by omega) (by omega))
  go_wp2_with fail
  refine (unhide K1).mono ?_
  rintro e W3 ⟨d, rfl, E1⟩
  have K2 := hide (sx_open E1 (by omega))
  clear K1 E1
  go_wp2_with fail
  refine (unhide K2).mono ?_
  rintro e W4 ⟨x, rfl, V1, ok1, hd1, hn1, hm1⟩
  clear K2
  have K3 := hide (sx_change (cap := capo) V1 ok1 (by simp) (by omega) (by omega) ((unhide HO).bw V1.bel) (unhide HLe2).1)
  rw [← (unhide HLe).1] at K3
  clear V1 ok1 hd1 hm1
  go_wp2_with fail
  refine (unhide K3).mono ?_
  clear K3
  rintro e W5 ⟨y1, x1, rfl, V2, ok2, -, hsb2, hcase⟩
  have hn2 : x1.n ≤ 1 := by rcases hcase with ⟨_, _, _, _, h⟩ | ⟨_, _, _, h⟩ <;> omega
  rw [← hsb2]
  clear hcase hsb2 hn1
  have K4 := hide (all_any (SX.es V2) ok2.fits)
  have HV2 := hide (And.intro V2 (And.intro ok2 hn2))
  clear V2 ok2 hn2
  go_wp2_with fail
  refine (unhide K4).mono ?_
  clear K4
  rintro e W6 ⟨v1, ns1, rfl, hN1, hl1, hQ1⟩
  have V3 := SX.keep (unhide HV2).1 hQ1
  obtain ⟨a1, c1, hv1⟩ := hQ1.row.form
  subst hv1
  have ok2 := (unhide HV2).2.1
  have K5 := hide (sx_change (cap := capl) V3 ok2 (by intro r hr; simp at hr; subst hr; exact solid_P _ _) (by have := (unhide HV2).2.2; omega) (by omega) ((unhide HL).bw V3.bel) (unhide HLe2).2)
  rw [← (unhide HLe).2] at K5
  have HN1 := hide (And.intro hN1 (And.intro hl1 ok2.fits))
  clear V3 ok2 hQ1 HV2 hN1 hl1
  go_wp2_with fail
  refine (unhide K5).mono ?_
  clear K5
  rintro e W7 ⟨y2, x2, rfl, V4, ok4, -, hsb4, ⟨hno, hy, -, hm4, hn4⟩ | ⟨hok, rfl, hm4, hn4⟩⟩
  · rw [← hsb4]
    have hy2 : (y2 == 0) = false := by simp [hy]
    have hy3 : decide (y2 = 0) = false := decide_eq_false hy
    have K6 := hide (all_any (SX.es V4) ok4.fits)
    rw [hm4] at K6
    have HV4 := hide V4
    clear V4 ok4 hsb4 hno hm4 hn4
    go_wp2_with fail
    refine (unhide K6).mono ?_
    clear K6
    rintro e W8 ⟨v2, ns2, rfl, hN2, hl2, hQ2⟩
    obtain rfl : ns1 = ns2 := (unhide HN1).1.uniq hN2
    have r1 : PRow W8 _ _ := (SX.kept (unhide HV4)).bw hQ2.bel
    have hfit := fit_of hN2 (unhide HN1).2.2
    obtain ⟨a2, c2, hv2, hA2⟩ := hQ2.row.read (by rw [pairsOf_len]; omega) hfit
    subst hv2
    have hA1 := r1.prs (by rw [pairsOf_len]; omega) hfit
    have K7 := hide (same7_any (ca := c2) (cb := c1) hA2 hA1)
    have HB8 := hide (bw_tr (unhide HV4).bel hQ2.bel)
    clear hN2 hl2 hQ2 r1 hfit hA2 hA1
    go_wp2_with fail
    refine (unhide K7).mono ?_
    clear K7
    rintro e W9 ⟨z, rfl, hz, b9⟩
    obtain rfl : z = true := by simpa using hz
    have KA := hide (alive7_any W9)
    have HB9 := hide (bw_tr (unhide HB8) b9)
    clear hz b9
    go_wp2_with (first | (go_at_call 14; refine (unhide KA).mono ?_; rintro e w3 ⟨rfl, b3⟩))
    go_ret
    exact ⟨rfl, bw_tr (unhide HB9) b3⟩
  · rw [← hsb4]
    have HV4 := hide (And.intro V4 (And.intro ok4 (And.intro hm4 hok.1)))
    have hLLi : (LL : Int) ≤ 262144 := by have := (unhide HLe2).2; have := (unhide HLe).2; omega
    clear V4 ok4 hsb4 hok hm4 hn4
    go_wp2_with fail
    go_loopw [9] (fun iv wr => ∃ i : Nat, i ≤ LL ∧ iv = .int .i64 (i : Int) ∧ Hid (Env w wr (x2.res ++ [resP (.slice a1 (pairsOf x1.m ns1).length c1) (pairsOf x1.m ns1)]))) (fun iv _ => (LL - intOf iv).toNat)
    case atStart => exact ⟨0, by omega, rfl, (unhide HV4).1⟩
    case round =>
      obtain ⟨i, hi, rfl, HR⟩ := hrel
      by_cases hlt : i < LL
      · obtain ⟨p, hp⟩ : ∃ p, l[i]? = some p := ⟨_, List.getElem?_eq_getElem (by have := (unhide HLe).2; omega)⟩
        obtain ⟨b, off, ha, hcell⟩ := (unhide HL).get hp
        subst ha
        have hpm := List.mem_of_getElem? hp
        obtain ⟨f1, f2⟩ := (unhide HL).fit p hpm
        obtain ⟨p0, p1, p2⟩ := hcell wr (unhide HR).bel
        have K6 := hide (sget_any (SX.es (unhide HR)) p.n f1)
        obtain ⟨g1, g2⟩ := chg_told (m := x1.m) (unhide HV4).2.2.2 hpm
        rw [(unhide HV4).2.2.1, g1, g2] at K6
        have hii : (i : Int) < (LL : Int) := by omega
        have HC := hide hcell
        clear hcell hp hpm g1 g2 f1 f2
        go_wp2_with fail
        refine (unhide K6).mono ?_
        rintro e W8 ⟨rfl, b8⟩
        have V8 := (unhide HR).new b8
        obtain ⟨q0, q1, q2⟩ := unhide HC W8 V8.bel
        have HV8 := hide V8
        clear K6 b8 V8 HR HC p0 p1 p2
        obtain ⟨pn, pt, pg⟩ := p
        simp only at q0 q1 q2 ⊢
        cases pg
        all_goals
          go_wp2_with fail
          go_roundw
          case rel => exact ⟨i + 1, by omega, by go_num, HV8⟩
          case measure => simp only [intOf]; omega
      · have hii : ¬ (i : Int) < (LL : Int) := by omega
        have K6 := hide (all_any (SX.es (unhide HR)) (unhide HV4).2.1.fits)
        rw [(unhide HV4).2.2.1] at K6
        go_wp2_with fail
        refine (unhide K6).mono ?_
        clear K6
        rintro e W8 ⟨v2, ns2, rfl, hN2, hl2, hQ2⟩
        have hfit2 := fit_of hN2 (by rw [← (unhide HV4).2.2.1]; exact (unhide HV4).2.1.fits)
        have hfit1 := fit_of (unhide HN1).1 (unhide HN1).2.2
        have r1 : PRow W8 _ _ := (SX.kept (unhide HR)).bw hQ2.bel
        obtain ⟨a2, c2, hv2, hA2⟩ := hQ2.row.read (by rw [pairsOf_len]; omega) hfit2
        subst hv2
        have hA1 := r1.prs (by have := (unhide HN1).2.1; rw [pairsOf_len]; omega) hfit1
        have bb := bw_tr (unhide HR).bel hQ2.bel
        have K7 := hide (others_any (ca := c2) (cb := c1) (cc := capl) hA2 hA1 ((unhide HL).bw bb) (by rw [pairsOf_len]; exact hl2) (by rw [pairsOf_len]; exact (unhide HN1).2.1))
        rw [← (unhide HLe).2] at K7
        have HO2 := hide (others_eq (unhide HN1).1 hN2)
        have HB8 := hide bb
        clear hN2 hl2 hQ2 r1 hfit2 hfit1 hA2 hA1 bb HR
        go_wp2_with fail
        refine (unhide K7).mono ?_
        clear K7
        rintro e W9 ⟨z, rfl, hz, b9⟩
        obtain rfl : z = true := hz.2 (unhide HO2)
        have KA := hide (alive7_any W9)
        have HB9 := hide (bw_tr (unhide HB8) b9)
        clear hz b9
        go_wp2_with (first | (go_at_call 14; refine (unhide KA).mono ?_; rintro e w3 ⟨rfl, b3⟩))
        go_ret
        exact ⟨rfl, bw_tr (unhide HB9) b3⟩
end Go.Proofs.YtckddmdgmjekdaaGreat
