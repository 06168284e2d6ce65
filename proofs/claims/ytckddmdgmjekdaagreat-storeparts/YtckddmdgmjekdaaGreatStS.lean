/- The walk of StoreOrder. -/
import Derived.Test.YtckddmdgmjekdaaGreatStQ
namespace Go.Proofs.YtckddmdgmjekdaaGreat
open Go.RowKit Go.Maps

theorem SX.swap {a b : SX} {w W : World} {rs : List Res} (h : Env w W (a.res ++ (b.res ++ rs))) : Env w W (b.res ++ (a.res ++ rs)) := h.perm (List.perm_append_comm_assoc _ _ _)
theorem solid_two (b : SX) {rs : List Res} (h : ∀ r ∈ rs, Solid r) : ∀ r ∈ b.res ++ rs, Solid r := fun r hr => by
  rcases List.mem_append.1 hr with c | c
  · exact b.solid r c
  · exact h r c
theorem Okay.rev {m : MM} {l : List PP} {r : Nat} (h : Okay m l r) : Okay m l.reverse r := by
  obtain ⟨h1, h2⟩ := h
  have hn := (chgE_iff.1 h1).2
  exact ⟨chgE_rev.2 h1, by rw [chg_rev hn]; exact h2⟩
theorem okay_rev {m : MM} {l : List PP} {r : Nat} : Okay m l.reverse r ↔ Okay m l r := ⟨fun h => by have := h.rev; rwa [List.reverse_reverse] at this, Okay.rev⟩
theorem drop_rev {l : List PP} {j : Nat} {p : PP} (h : l[j]? = some p) : (l.drop j).reverse = (l.drop (j + 1)).reverse ++ [p] := by rw [drop_cons h]; simp
set_option maxRecDepth 100000 in
set_option maxHeartbeats 8000000 in
theorem StoreOrder_walk (w : World) (ao : Option Addr) (capo : Nat) (old : List PP) (ho : PrsAt w ao old) (al : Option Addr) (capl : Nat) (l : List PP) (hl : PrsAt w al l) :
    Calls Tryz.prog 7 #[.slice ao old.length capo, .slice al l.length capl] w fun e w' => e = .returned (.bool true) ∧ Below w.heap.size w w' := by
  have K1 := hide (size_any (cap := capo) ho)
  have K2 := hide (fun (W : World) (hW : Below w.heap.size w W) => size_any (cap := capl) (hl.bw hW))
  have HO := hide ho
  have HL := hide hl
  clear ho hl
  obtain ⟨LO, hLO⟩ : ∃ L, L = old.length := ⟨_, rfl⟩
  obtain ⟨LL, hLL⟩ : ∃ L, L = l.length := ⟨_, rfl⟩
  have HLe := hide (And.intro hLO hLL)
  rw [← hLO] at K1 ⊢
  rw [← hLL] at K2 ⊢
  clear hLO hLL
  go_enter Tryz.func7, Tryz.ntmps7
  go_wp2_with fail
  refine (unhide K1).mono ?_
  rintro e W1 ⟨N, rfl, hN1, hN2, b1⟩
  have K3 := hide (unhide K2 W1 b1)
  have HB0 := hide b1
  clear K1 K2 b1
  go_wp2_with fail
  refine (unhide K3).mono ?_
  rintro e W2 ⟨M, rfl, hM1, hM2, b2⟩
  obtain ⟨X1, hX1⟩ : ∃ X, X = W2.alloc (.cells #[.int .i64 (N : Int), .int .i64 (M : Int)] 3) := ⟨_, rfl⟩
  have q1 : X1.heap[W2.heap.size]? = some (.cells #[.int .i64 (N : Int), .int .i64 (M : Int)] 3 (0, 0)) := by rw [hX1]; exact heap_alloc_new _ _
  have KB := hide (beyond7_two W2.heap.size N M 2 X1 hN2 hM2 (by simp [World.cell?, q1]) (by simp [World.cell?, q1]))
  have HB1 : Hid (Below w.heap.size w X1) := bw_tr (bw_tr (unhide HB0) b2) (by rw [hX1]; exact bw_alloc _ _)
  have HNM := hide (And.intro hN1 hM1)
  have HX1 := hide hX1
  clear K3 HB0 b2 q1 hN1 hN2 hM1 hM2
  go_wp2_with fail
  rw [← unhide HX1]
  clear hX1
  refine (unhide KB).mono ?_
  rintro e w2 ⟨rfl, rfl⟩
  clear KB HX1
  by_cases hbig : 262144 < N + M
  · rw [decide_eq_true hbig]
    go_wp2_with fail
    go_ret
    exact ⟨rfl, unhide HB1⟩
  rw [decide_eq_false hbig]
  have HLe2 : Hid (old.length ≤ 262144 ∧ l.length ≤ 262144) := by have h1 := unhide HNM; have h2 := unhide HLe; exact ⟨by omega, by omega⟩
  clear hbig HNM
  have K1 := hide (fresh_any ((Env.nil w).new (unhide HB1)))
  go_wp2_with fail
  refine (unhide K1).mono ?_
  rintro e W3 ⟨xa, rfl, Va, oka, hna, hma⟩
  have K2 := hide (fresh_any (rs := xa.res ++ []) Va)
  clear K1 Va
  go_wp2_with fail
  refine (unhide K2).mono ?_
  rintro e W4 ⟨xb, rfl, Vb, okb, hnb, hmb⟩
  have HV := hide (And.intro (SX.swap Vb) (And.intro oka (And.intro okb (And.intro hna (And.intro hnb (And.intro hma hmb))))))
  have hLLi : (LL : Int) ≤ 262144 := by have := (unhide HLe2).2; have := (unhide HLe).2; omega
  clear K2 Vb oka okb hna hnb hma hmb
  go_wp2_with fail
  go_loopw [8, 7] (fun iv tv wr => ∃ k : Nat, k ≤ LL ∧ iv = .int .i64 ((k : Int) - 1) ∧ Hid (QRow W4 wr tv (l.drop k).reverse)) (fun iv _ _ => (intOf iv + 1).toNat)
  case atStart => exact ⟨LL, by omega, by go_num, by rw [(unhide HLe).2, List.drop_length]; exact QRow.nil W4⟩
  case round =>
    obtain ⟨k, hk, rfl, HR⟩ := hrel
    match k, hk, HR with
    | j + 1, hk, HR =>
      obtain ⟨p, hp⟩ : ∃ p, l[j]? = some p := ⟨_, List.getElem?_eq_getElem (by have := (unhide HLe).2; omega)⟩
      obtain ⟨b, off, ha, hcell⟩ := (unhide HL).get hp
      subst ha
      obtain ⟨p0, p1, p2⟩ := hcell wr (bw_tr (unhide HV).1.bel (unhide HR).bel)
      have hji : (j : Int) < (LL : Int) := by omega
      have e1 : (((j + 1 : Nat) : Int) - 1) = (j : Int) := by omega
      rw [e1]
      have hpl : (l.drop (j + 1)).reverse.length ≤ 1000000 := by simp; have := (unhide HLe2).2; omega
      have HZ : Hid (∀ v' w', QRow W4 w' v' ((l.drop (j + 1)).reverse ++ [p]) → QRow W4 w' v' (l.drop j).reverse) := fun v' w' hq => by rw [drop_rev hp]; exact hq
      obtain ⟨pn, pt, pg⟩ := p
      simp only at p0 p1 p2
      clear hcell hp
      go_wp2_with (first | (at_builtin; refine wpList_pushP (p := ⟨pn, pt, pg⟩) rfl (.tmp 32) (.tmp 37) rfl rfl rfl (unhide HR) hpl ?nx))
      case nx =>
        intro v' w5 E5 F5
        have HE5 := hide (unhide HZ v' w5 E5)
        clear E5 F5 HZ HR p0 p1 p2
        go_wp2_with fail
        go_roundw
        case rel => exact ⟨j, by omega, by go_num, HE5⟩
        case measure => simp only [intOf]; omega
    | 0, hk, HR =>
      have e1 : (((0 : Nat) : Int) - 1) = -1 := by omega
      rw [e1]
      have hQ := unhide HR
      rw [List.drop_zero] at hQ
      have hfitR : ∀ x ∈ l.reverse, x.n.size ≤ 140737488355328 ∧ x.t.size ≤ 140737488355328 := fun x hx => (unhide HL).fit x (List.mem_reverse.1 hx)
      have hlenR : l.reverse.length = l.length := List.length_reverse
      obtain ⟨at', ct, hvt⟩ := hQ.row.form
      obtain ⟨LR, hLR⟩ : ∃ LR, LR = l.reverse.length := ⟨_, rfl⟩
      rw [← hLR] at hvt
      subst hvt
      have HLR := hide hLR
      clear hLR
      obtain ⟨V0, oka, okb, hna, hnb, hma, hmb⟩ := unhide HV
      have V0' : Env w W4 (xa.res ++ (xb.res ++ [])) := V0
      have V1 : Env w wr (xa.res ++ (xb.res ++ [resP (.slice at' LR ct) l.reverse])) := by
        have h1 := V0'.add (resP (.slice at' LR ct) l.reverse) hQ.bel hQ.row (fun k hk => hQ.new k (by simpa [resP] using hk))
        refine h1.perm ?_
        rw [List.append_nil]
        exact (List.perm_append_singleton _ _).symm.trans (by rw [List.append_assoc])
      have hsP : ∀ r ∈ [resP (.slice at' LR ct) l.reverse], Solid r := by intro r hr; simp at hr; subst hr; exact solid_P _ _
      obtain ⟨tR, htR⟩ : ∃ t, t = resP (.slice at' LR ct) l.reverse := ⟨_, rfl⟩
      rw [← htR] at V1 hsP
      have K3 := hide (sx_change (cap := capo) V1 oka (solid_two xb hsP) (by omega) (by omega) ((unhide HO).bw V1.bel) (unhide HLe2).1)
      rw [← (unhide HLe).1, hma, hna] at K3
      have HT := hide (And.intro hsP (And.intro htR (And.intro hfitR hlenR)))
      have HOK := hide (And.intro okb (And.intro hnb hmb))
      clear V0 V0' oka okb hna hnb hma hmb V1 hsP hQ HR HV htR e1 hfitR hlenR
      go_wp2_with fail
      refine (unhide K3).mono ?_
      clear K3
      rintro e W5 ⟨ya, xa1, rfl, V2, oka1, -, hsa1, hca⟩
      rw [← hsa1]
      have K4 := hide (sx_change (cap := capo) (SX.swap V2) (unhide HOK).1 (solid_two xa1 (unhide HT).1) (by have := (unhide HOK).2.1; omega) (by omega) ((unhide HO).bw V2.bel) (unhide HLe2).1)
      rw [← (unhide HLe).1, (unhide HOK).2.1, (unhide HOK).2.2] at K4
      have HA1 := hide (And.intro oka1 hca)
      clear V2 oka1 hsa1 hca
      go_wp2_with fail
      refine (unhide K4).mono ?_
      clear K4
      rintro e W6 ⟨yb, xb1, rfl, V3, okb1, -, hsb1, hcb⟩
      rw [← hsb1]
      have hab : xa1.m = xb1.m ∧ xa1.n ≤ 1 ∧ xb1.n ≤ 1 := by
        rcases (unhide HA1).2 with ⟨c1, -, -, c2, c3⟩ | ⟨c1, -, c2, c3⟩ <;> rcases hcb with ⟨d1, -, -, d2, d3⟩ | ⟨d1, -, d2, d3⟩
        · exact ⟨c2.trans d2.symm, by omega, by omega⟩
        · exact absurd d1 c1
        · exact absurd c1 d1
        · exact ⟨c2.trans d2.symm, by omega, by omega⟩
      have oka1 := (unhide HA1).1
      have K5 := hide (sx_change (cap := capl) (SX.swap V3) oka1 (solid_two xb1 (unhide HT).1) (by omega) (by omega) ((unhide HL).bw V3.bel) (unhide HLe2).2)
      rw [← (unhide HLe).2] at K5
      have HB2 := hide (And.intro okb1 hab)
      clear V3 okb1 hsb1 hcb hab oka1 HA1 HOK
      go_wp2_with fail
      refine (unhide K5).mono ?_
      clear K5
      rintro e W7 ⟨yc, xa2, rfl, V4, oka2, -, hsa2, hcc⟩
      rw [← hsa2]
      have hrow : PRow W7 (.slice at' LR ct) l.reverse := by
        have : tR.P W7 := V4.hold tR (by simp)
        rw [(unhide HT).2.1] at this; exact this
      rw [unhide HLR] at hrow
      have hA := hrow.prs (by rw [(unhide HT).2.2.2]; exact (unhide HL).len) (unhide HT).2.2.1
      have K6 := hide (sx_change (cap := ct) (SX.swap V4) (unhide HB2).1 (solid_two xa2 (unhide HT).1) (by have := (unhide HB2).2; omega) (by omega) hA (by rw [(unhide HT).2.2.2]; exact (unhide HLe2).2))
      rw [← (unhide HB2).2.1, ← unhide HLR] at K6
      have HA2 := hide (And.intro oka2 hcc)
      clear V4 oka2 hsa2 hcc hrow hA
      go_wp2_with fail
      refine (unhide K6).mono ?_
      clear K6
      rintro e W8 ⟨yd, xb2, rfl, V5, okb2, -, hsb2, hcd⟩
      rw [← hsb2]
      rcases (unhide HA2).2 with ⟨c1, c2, -, -, -⟩ | ⟨c1, rfl, c2, -⟩
      · rcases hcd with ⟨d1, d2, -, -, -⟩ | ⟨d1, _, _, _⟩
        · have n1 : (yc == 0) = false := by simp [c2]
          have n2 : decide (yc = 0) = false := decide_eq_false c2
          have n3 : (yd == 0) = false := by simp [d2]
          have n4 : decide (yd = 0) = false := decide_eq_false d2
          have n5 : (yd != 0) = true := by simp [d2]
          have n6 : (yc != 0) = true := by simp [c2]
          have KA := hide (alive7_any W8)
          have HB := hide V5.bel
          clear V5 okb2 hsb2 d1 c1 HA2
          go_wp2_with (first | (go_at_call 14; refine (unhide KA).mono ?_; rintro e w3 ⟨rfl, b3⟩))
          go_ret
          exact ⟨rfl, bw_tr (unhide HB) b3⟩
        · exact absurd (okay_rev.1 d1) c1
      · rcases hcd with ⟨d1, _, _, _, _⟩ | ⟨d1, rfl, d2, -⟩
        · exact absurd (okay_rev.2 c1) d1
        · have hmm : xa2.m = xb2.m := by rw [c2, d2, chg_rev (chgE_iff.1 c1.1).2]
          have K7 := hide (all_any (SX.es (SX.swap V5)) (unhide HA2).1.fits)
          have HV5 := hide (And.intro V5 (And.intro okb2 hmm))
          clear V5 okb2 hsb2 d1 d2 hmm c1 c2
          go_wp2_with fail
          refine (unhide K7).mono ?_
          clear K7
          rintro e W9 ⟨v1, ns1, rfl, hN1, hl1, hQ1⟩
          have K8 := hide (all_any (SX.es ((unhide HV5).1.new hQ1.bel)) (unhide HV5).2.1.fits)
          have HQ1 := hide (And.intro hN1 (And.intro hl1 hQ1))
          clear hN1 hl1 hQ1
          go_wp2_with fail
          refine (unhide K8).mono ?_
          clear K8
          rintro e W10 ⟨v2, ns2, rfl, hN2, hl2, hQ2⟩
          obtain ⟨hN1, hl1, hQ1⟩ := unhide HQ1
          have hmm := (unhide HV5).2.2
          rw [hmm] at hN1 hQ1
          obtain rfl : ns1 = ns2 := hN1.uniq hN2
          have hfit := fit_of hN1 (unhide HV5).2.1.fits
          have hQ1' := hQ1.bw hQ2.bel
          obtain ⟨a1, c1, hv1, hA1⟩ := hQ1'.row.read (by rw [pairsOf_len]; omega) hfit
          obtain ⟨a2, c2, hv2, hA2⟩ := hQ2.row.read (by rw [pairsOf_len]; omega) hfit
          subst hv1 hv2
          have K9 := hide (same7_any (ca := c1) (cb := c2) hA1 hA2)
          have HB10 := hide (bw_tr (bw_tr (unhide HV5).1.bel hQ1.bel) hQ2.bel)
          clear hN1 hl1 hQ1 hmm hN2 hl2 hQ2 hfit hQ1' hA1 hA2 HQ1
          go_wp2_with fail
          refine (unhide K9).mono ?_
          clear K9
          rintro e W11 ⟨z, rfl, hz, b11⟩
          obtain rfl : z = true := by simpa using hz
          have KA := hide (alive7_any W11)
          have HB11 := hide (bw_tr (unhide HB10) b11)
          clear hz b11
          go_wp2_with (first | (go_at_call 14; refine (unhide KA).mono ?_; rintro e w3 ⟨rfl, b3⟩))
          go_ret
          exact ⟨rfl, bw_tr (unhide HB11) b3⟩
end Go.Proofs.YtckddmdgmjekdaaGreat
