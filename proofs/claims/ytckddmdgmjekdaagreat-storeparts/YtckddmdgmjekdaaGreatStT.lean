/- The walk of StoreParts. -/
import Derived.Test.YtckddmdgmjekdaaGreatStS
import Derived.Laws.AppendOwnNone
namespace Go.Proofs.YtckddmdgmjekdaaGreat
open Go.RowKit Go.Maps

theorem flat3_cell {W : World} {b off : Nat} {l : List PP} (h : ∀ i x, l[i]? = some x → PrAt W b (off + i * 3) x) : ∀ j u, (l.flatMap prC)[j]? = some u → W.cell? ((⟨b, off, none⟩ : Addr).add j) = some u := by
  intro j u hj
  have hlt : j < l.length * 3 := by
    have := (List.getElem?_eq_some_iff.1 hj).1
    rw [flat3_len] at this; exact this
  obtain ⟨i, k, hk, rfl⟩ : ∃ i k, k < 3 ∧ j = i * 3 + k := ⟨j / 3, j % 3, by omega, by omega⟩
  obtain ⟨x, hx⟩ : ∃ x, l[i]? = some x := ⟨_, List.getElem?_eq_getElem (by omega)⟩
  obtain ⟨v, hv⟩ : ∃ v, (prC x)[k]? = some v := ⟨_, List.getElem?_eq_getElem hk⟩
  rw [flat3 hx hv] at hj
  cases hj
  obtain ⟨h0, h1, h2⟩ := h i x hx
  have ea : ∀ j, (⟨b, off, none⟩ : Addr).add j = ⟨b, off + j, none⟩ := fun j => by
    unfold Addr.add; by_cases hj : j = 0 <;> simp [hj]
  rw [ea]
  match k, hk, hv with
  | 0, _, hv => cases hv; simpa [Nat.add_assoc] using h0
  | 1, _, hv => cases hv; simpa [Nat.add_assoc] using h1
  | 2, _, hv => cases hv; simpa [Nat.add_assoc] using h2
theorem wpList_joinP {w W : World} {v : Value} {l0 l : List PP} {ad : Option Addr} {c : Nat} {ops : Array Oper} {rest : List Oper} {o : Oper} {a : Act} {Q : Exit → Act → World → Prop} (hgd : o.guard = none) (s x : Operand)
    (ho : o.op = .call { callee := .builtin .append, args := #[s, x], argTypes := #[22, 22] }) (hs : a.eval s = v) {L : Nat} (hLl : L = l.length) (hx : a.eval x = .slice ad L c) (h : QRow w W v l0) (hA : PrsAt W ad l) (hz : ad = none → c = 0) (hl : l0.length + l.length ≤ 1000000)
    (hk : ∀ v' w', QRow w w' v' (l0 ++ l) → Fr v.ownBlock.toList W w' → wpList Tryz.prog ops Q rest (a.put o.dst v') w') : wpList Tryz.prog ops Q (o :: rest) a W := by
  subst hLl
  obtain ⟨i0, hi, hz0, hz1, hz2⟩ := info_pair
  obtain ⟨hb, hr, hn⟩ := h
  have key : ∀ (b : Addr), ad = some b → (∀ j u, (l.flatMap prC)[j]? = some u → W.cell? (b.add j) = some u) → wpList Tryz.prog ops Q (o :: rest) a W := fun b hab hcell => by
    subst hab
    refine wpList_append_own_at _ hgd s x 22 ho 0 48 i0 (pairV zpp) 3 40 Tryz.underlying22 hi hz0 hz1 hz2 rfl (by decide) v l0.length (l0.flatMap prC) hs hr b l.length c (l.flatMap prC) hx (flat3_len l) hcell ?_ (by unfold maxLen; omega) (by omega) (Nat.zero_le _) ?_
    · intro u hu
      obtain ⟨p, _, hp⟩ := List.mem_flatMap.1 hu
      simp only [prC, List.mem_cons, List.not_mem_nil, or_false] at hp
      rcases hp with rfl | rfl | rfl <;> rfl
    intro v' w' h1 h2 _ h4
    have hF : Fr v.ownBlock.toList W w' := Fr.ofGrown h2
    refine hk v' w' ⟨Fr.toBase hb hF (fun k hk => hn k (by simpa using hk)), ?_, fun k hk => ?_⟩ hF
    · unfold PRow
      rw [List.length_append, List.flatMap_append]; exact h1
    · rcases h4 with q | q
      · exact hn k (q.symm.trans hk)
      · rw [q] at hk; simp at hk; have := hb.size; omega
  rcases hA.cells with hnil | ⟨b, off, hab, hB, hc⟩
  · subst hnil
    cases ad with
    | none =>
      obtain rfl := hz rfl
      refine wpList_append_own_none hgd s x 22 ho 0 48 i0 3 Tryz.underlying22 hi v l0.length _ hs hr hx ?_
      exact hk v W ⟨hb, by simpa using hr, hn⟩ (Fr.refl _ _)
    | some b => exact key b rfl (fun j u hj => by simp at hj)
  · exact key _ hab (flat3_cell hc)
theorem qrow_empty (W : World) : QRow W (W.alloc (.cells #[] 48)) (.slice (some ⟨W.heap.size, 0, none⟩) 0 0) [] := by
  refine ⟨bw_alloc _ _, ⟨rfl, Or.inr ⟨W.heap.size, 0, #[], rfl, Nat.zero_le _, heap_alloc_new _ _, Nat.le_refl _, Nat.zero_le _, rfl, rfl⟩⟩, fun k hk => ?_⟩
  simp [Value.ownBlock] at hk; omega
theorem Okay.parts {m : MM} {a b : List PP} {r : Nat} (h1 : Okay m a r) (h2 : Okay (m.chg a) b r) (hd : ∀ p ∈ b, namedB a p.n = false) : Okay m (a ++ b) r := by
  obtain ⟨x1, x2⟩ := chgE_iff.1 h1.1
  obtain ⟨y1, y2⟩ := chgE_iff.1 h2.1
  refine ⟨chgE_iff.2 ⟨fun p hp => ?_, ?_⟩, by rw [chg_app]; exact h2.2⟩
  · rcases List.mem_append.1 hp with hp | hp
    · exact x1 p hp
    · exact y1 p hp
  · rw [List.map_append]
    refine List.nodup_append.2 ⟨x2, y2, fun k hk k' hk' e => ?_⟩
    subst e
    obtain ⟨p, hp, rfl⟩ := List.mem_map.1 hk
    obtain ⟨q, hq, e⟩ := List.mem_map.1 hk'
    have := hd q hq
    rw [e] at this
    have := namedB_iff.2 ⟨p, hp, rfl⟩
    simp_all
set_option maxRecDepth 100000 in
set_option maxHeartbeats 8000000 in
theorem StoreParts_walk (w : World) (ao : Option Addr) (capo : Nat) (old : List PP) (ho0 : PrsAt w ao old ∧ (ao = none → capo = 0)) (al : Option Addr) (capl : Nat) (l : List PP) (hl0 : PrsAt w al l ∧ (al = none → capl = 0)) :
    Calls Tryz.prog 8 #[.slice ao old.length capo, .slice al l.length capl] w fun e w' => e = .returned (.bool true) ∧ Below w.heap.size w w' := by
  obtain ⟨ho, hzo⟩ := ho0
  obtain ⟨hl, hzl⟩ := hl0
  have HZN := hide (And.intro hzo hzl)
  clear hzo hzl
  have K1 := hide (size_any (cap := capo) ho)
  have K2 := hide (fun (W : World) (hW : Below w.heap.size w W) => size_any (cap := capl) (hl.bw hW))
  have HO := hide ho
  have HL := hide hl
  clear ho hl
  obtain ⟨LO, hLO⟩ : ∃ L, L = old.length := ⟨_, rfl⟩
  obtain ⟨LL, hLL⟩ : ∃ L, L = l.length := ⟨_, rfl⟩
  have HLe := hide (And.intro hLO hLL)
  rw [← hLO] at K1 ⊢
  rw [← hLL] at K2 ⊢
  clear hLO hLL
  go_enter Tryz.func8, Tryz.ntmps8
  go_wp2_with fail
  refine (unhide K1).mono ?_
  rintro e W1 ⟨N, rfl, hN1, hN2, b1⟩
  have K3 := hide (unhide K2 W1 b1)
  have HB0 := hide b1
  clear K1 K2 b1
  go_wp2_with fail
  refine (unhide K3).mono ?_
  rintro e W2 ⟨M, rfl, hM1, hM2, b2⟩
  obtain ⟨X1, hX1⟩ : ∃ X, X = W2.alloc (.cells #[.int .i64 (N : Int), .int .i64 (M : Int)] 3) := ⟨_, rfl⟩
  have q1 : X1.heap[W2.heap.size]? = some (.cells #[.int .i64 (N : Int), .int .i64 (M : Int)] 3 (0, 0)) := by rw [hX1]; exact heap_alloc_new _ _
  have KB := hide (beyond7_two W2.heap.size N M 2 X1 hN2 hM2 (by simp [World.cell?, q1]) (by simp [World.cell?, q1]))
  have HB1 : Hid (Below w.heap.size w X1) := bw_tr (bw_tr (unhide HB0) b2) (by rw [hX1]; exact bw_alloc _ _)
  have HNM := hide (And.intro hN1 hM1)
  have HX1 := hide hX1
  clear K3 HB0 b2 q1 hN1 hN2 hM1 hM2
  go_wp2_with fail
  rw [← unhide HX1]
  clear hX1
  refine (unhide KB).mono ?_
  rintro e w2 ⟨rfl, rfl⟩
  clear KB HX1
  by_cases hbig : 262144 < N + M
  · rw [decide_eq_true hbig]
    go_wp2_with fail
    go_ret
    exact ⟨rfl, unhide HB1⟩
  rw [decide_eq_false hbig]
  have HLe2 : Hid (old.length ≤ 262144 ∧ l.length ≤ 262144) := by have h1 := unhide HNM; have h2 := unhide HLe; exact ⟨by omega, by omega⟩
  have HLe3 : Hid (old.length + l.length ≤ 262144) := by have h1 := unhide HNM; have h2 := unhide HLe; unfold Hid; omega
  clear hbig HNM
  have K1 := hide (fresh_any ((Env.nil w).new (unhide HB1)))
  go_wp2_with fail
  refine (unhide K1).mono ?_
  rintro e W3 ⟨xa, rfl, Va, oka, hna, hma⟩
  have K2 := hide (fresh_any (rs := xa.res ++ []) Va)
  clear K1 Va
  go_wp2_with fail
  refine (unhide K2).mono ?_
  rintro e W4 ⟨xb, rfl, Vb, okb, hnb, hmb⟩
  have HV := hide (And.intro (SX.swap Vb) (And.intro oka (And.intro okb (And.intro hna (And.intro hnb (And.intro hma hmb))))))
  have hLLi : (LL : Int) ≤ 262144 := by have := (unhide HLe2).2; have := (unhide HLe).2; omega
  have KN := hide (fun k => named_any (cap := capo) ((unhide HO).bw (unhide HV).1.bel) k)
  rw [← (unhide HLe).1] at KN
  clear K2 Vb oka okb hna hnb hma hmb
  go_wp2_with fail
  go_loopw [7] (fun iv wr => ∃ i : Nat, i ≤ LL ∧ iv = .int .i64 (i : Int) ∧ wr = W4 ∧ Hid (∀ p ∈ l.take i, namedB old p.n = false)) (fun iv _ => (LL - intOf iv).toNat)
  case atStart => exact ⟨0, by omega, rfl, rfl, by simp [Hid]⟩
  case round =>
    obtain ⟨i, hi, rfl, rfl, HR⟩ := hrel
    by_cases hlt : i < LL
    · obtain ⟨p, hp⟩ : ∃ p, l[i]? = some p := ⟨_, List.getElem?_eq_getElem (by have := (unhide HLe).2; omega)⟩
      obtain ⟨b, off, ha, hcell⟩ := (unhide HL).get hp
      subst ha
      obtain ⟨p0, p1, p2⟩ := hcell wr (unhide HV).1.bel
      have K3 := hide (unhide KN p.n)
      have hii : (i : Int) < (LL : Int) := by omega
      cases hz : namedB old p.n
      · rw [hz] at K3
        have HN : Hid (∀ p ∈ l.take (i + 1), namedB old p.n = false) := by
          intro q hq
          rw [take_snoc hp] at hq
          rcases List.mem_append.1 hq with hq | hq
          · exact unhide HR q hq
          · simp at hq; subst hq; exact hz
        clear hcell hp hz HR
        go_wp2_with (first | (go_at_call 28; refine (unhide K3).mono ?_; rintro e w1 ⟨rfl, rfl⟩))
        go_roundw
        case rel => exact ⟨i + 1, by omega, by go_num, by first | rfl | trivial, HN⟩
        case measure => simp only [intOf]; omega
      · rw [hz] at K3
        have KA := hide (alive7_any wr)
        have HB := hide (unhide HV).1.bel
        clear hcell hp hz HR
        go_wp2_with (first | (go_at_call 28; refine (unhide K3).mono ?_; rintro e w1 ⟨rfl, rfl⟩) | (go_at_call 14; refine (unhide KA).mono ?_; rintro e w3 ⟨rfl, b3⟩))
        go_ret
        exact ⟨rfl, bw_tr (unhide HB) b3⟩
    · have hii : ¬ (i : Int) < (LL : Int) := by omega
      have HD : Hid (∀ p ∈ l, namedB old p.n = false) := by
        have h := unhide HR
        rw [List.take_of_length_le (by have := (unhide HLe).2; omega)] at h
        exact h
      obtain ⟨V0, oka, okb, hna, hnb, hma, hmb⟩ := unhide HV
      have K3 := hide (sx_change (cap := capo) V0 oka (solid_two xb (by simp)) (by omega) (by omega) ((unhide HO).bw V0.bel) (unhide HLe2).1)
      rw [← (unhide HLe).1, hma, hna] at K3
      have HOK := hide (And.intro okb (And.intro hnb hmb))
      clear V0 oka okb hna hnb hma hmb HR HV KN
      go_wp2_with fail
      refine (unhide K3).mono ?_
      clear K3
      rintro e W5 ⟨ya, xa1, rfl, V2, oka1, -, hsa1, hca⟩
      rw [← hsa1]
      have hna1 : xa1.n ≤ 1 := by rcases hca with ⟨_, _, _, _, h⟩ | ⟨_, _, _, h⟩ <;> omega
      have K4 := hide (sx_change (cap := capl) V2 oka1 (solid_two xb (by simp)) (by omega) (by omega) ((unhide HL).bw V2.bel) (unhide HLe2).2)
      rw [← (unhide HLe).2] at K4
      have HA1 := hide hca
      clear V2 oka1 hsa1 hca hna1
      go_wp2_with fail
      refine (unhide K4).mono ?_
      clear K4
      rintro e W6 ⟨yb, xa2, rfl, V3, oka2, -, hsa2, hcb⟩
      rw [← hsa2]
      have HV3 := hide (And.intro V3 (And.intro oka2 hcb))
      have HQ0 := hide (qrow_empty W6)
      have HA6 : Hid (∀ Y, Below W6.heap.size W6 Y → PrsAt Y ao old ∧ PrsAt Y al l) := fun Y hY => ⟨(unhide HO).bw (bw_tr V3.bel hY), (unhide HL).bw (bw_tr V3.bel hY)⟩
      have hm1 : ([] : List PP).length + old.length ≤ 1000000 := by have := (unhide HLe2).1; simp; omega
      have hm2 : (([] : List PP) ++ old).length + l.length ≤ 1000000 := by have := unhide HLe2; simp; omega
      clear V3 oka2 hcb hsa2
      go_wp2_with (at_builtin; refine wpList_joinP (l := old) rfl (.tmp 46) (.tmp 47) rfl rfl (unhide HLe).1 rfl (unhide HQ0) (unhide HA6 _ (bw_alloc _ _)).1 (unhide HZN).1 hm1 ?nx)
      case nx =>
        intro v1 w7 Q1 F1
        have HQ1 := hide Q1
        clear Q1 F1 HQ0
        go_wp2_with (at_builtin; refine wpList_joinP (l := l) rfl (.tmp 48) (.tmp 49) rfl rfl (unhide HLe).2 rfl (unhide HQ1) (unhide HA6 _ (unhide HQ1).bel).2 (unhide HZN).2 hm2 ?nx2)
        case nx2 =>
          intro v2 w8 Q2 F2
          have hfit : ∀ x ∈ old ++ l, x.n.size ≤ 140737488355328 ∧ x.t.size ≤ 140737488355328 := fun x hx => by
            rcases List.mem_append.1 hx with hx | hx
            · exact (unhide HO).fit x hx
            · exact (unhide HL).fit x hx
          have hlen3 : (old ++ l).length ≤ 262144 := by rw [List.length_append]; exact unhide HLe3
          obtain ⟨a2, c2, hv2, hA2⟩ := Q2.row.read (by omega) hfit
          have V4 := (SX.swap (unhide HV3).1).new Q2.bel
          have K5 := hide (sx_change (cap := c2) V4 (unhide HOK).1 (solid_two xa2 (by simp)) (by have := (unhide HOK).2.1; omega) (by omega) hA2 hlen3)
          rw [(unhide HOK).2.1, (unhide HOK).2.2] at K5
          obtain ⟨LJ, hLJ⟩ : ∃ L, L = (old ++ l).length := ⟨_, rfl⟩
          rw [← hLJ] at K5 hv2
          subst hv2
          clear hLJ hfit hlen3 hA2 V4 Q2 F2 HQ1 hm1 hm2 HA6
          go_wp2_with fail
          refine (unhide K5).mono ?_
          clear K5
          rintro e W9 ⟨yc, xb1, rfl, V5, okb1, -, hsb1, hcc⟩
          rw [← hsb1]
          rcases unhide HA1 with ⟨-, c1, -⟩ | ⟨k1, rfl, k2, k3⟩
          · have n1 : (ya == 0) = false := by simp [c1]
            have n2 : decide (ya = 0) = false := decide_eq_false c1
            have n3 : (ya != 0) = true := by simp [c1]
            have KA := hide (alive7_any W9)
            have HB := hide V5.bel
            clear V5 okb1 hsb1 hcc HA1 HV3
            go_wp2_with (first | (go_at_call 14; refine (unhide KA).mono ?_; rintro e w3 ⟨rfl, b3⟩))
            go_ret
            exact ⟨rfl, bw_tr (unhide HB) b3⟩
          rcases (unhide HV3).2.2 with ⟨-, c1, -⟩ | ⟨g1, rfl, g2, g3⟩
          · have n1 : (yb == 0) = false := by simp [c1]
            have n2 : decide (yb = 0) = false := decide_eq_false c1
            have n3 : (yb != 0) = true := by simp [c1]
            have KA := hide (alive7_any W9)
            have HB := hide V5.bel
            clear V5 okb1 hsb1 hcc HA1 HV3 k1 k2 k3
            go_wp2_with (first | (go_at_call 14; refine (unhide KA).mono ?_; rintro e w3 ⟨rfl, b3⟩))
            go_ret
            exact ⟨rfl, bw_tr (unhide HB) b3⟩
          rw [k2] at g1 g2
          have hOk : Okay MM.nil (old ++ l) (roomN 200) := k1.parts g1 (unhide HD)
          rcases hcc with ⟨hno, _⟩ | ⟨-, rfl, d2, d3⟩
          · exact absurd hOk hno
          have hmm : xa2.m = xb1.m := by rw [g2, d2, chg_app]
          have V6 := SX.swap V5
          have K7 := hide (all_any (SX.es V6) (unhide HV3).2.1.fits)
          have HV5 := hide (And.intro V5 (And.intro okb1 (And.intro hmm (And.intro (show xa2.n = 2 by omega) (show xb1.n = 1 by omega)))))
          clear V5 okb1 hsb1 d2 d3 hmm k1 k2 k3 g1 g2 g3 hOk V6 HA1
          go_wp2_with fail
          refine (unhide K7).mono ?_
          clear K7
          rintro e W10 ⟨v1, ns1, rfl, hN1, hl1, hQ1⟩
          have K8 := hide (all_any (SX.es ((unhide HV5).1.new hQ1.bel)) (unhide HV5).2.1.fits)
          have HQ1 := hide (And.intro hN1 (And.intro hl1 hQ1))
          clear hN1 hl1 hQ1
          go_wp2_with fail
          refine (unhide K8).mono ?_
          clear K8
          rintro e W11 ⟨v2, ns2, rfl, hN2, hl2, hQ2⟩
          obtain ⟨hN1, hl1, hQ1⟩ := unhide HQ1
          have hmm := (unhide HV5).2.2.1
          rw [hmm] at hN1 hQ1
          obtain rfl : ns1 = ns2 := hN1.uniq hN2
          have hfit := fit_of hN1 (unhide HV5).2.1.fits
          have hQ1' := hQ1.bw hQ2.bel
          obtain ⟨b1, d1, hv1, hB1⟩ := hQ1'.row.read (by rw [pairsOf_len]; omega) hfit
          obtain ⟨b2, d2, hv2, hB2⟩ := hQ2.row.read (by rw [pairsOf_len]; omega) hfit
          subst hv1 hv2
          have K9 := hide (same7_any (ca := d1) (cb := d2) hB1 hB2)
          have bb := bw_tr hQ1.bel hQ2.bel
          have V7 := (unhide HV5).1.new bb
          have HV7 := hide V7
          clear hN1 hl1 hQ1 hmm hN2 hl2 hQ2 hfit hQ1' hB1 hB2 HQ1 bb V7
          go_wp2_with fail
          refine (unhide K9).mono ?_
          clear K9
          rintro e W12 ⟨z, rfl, hz, b12⟩
          obtain rfl : z = true := by simpa using hz
          have V8 := (unhide HV7).new b12
          have KSa := hide (sseq_any (SX.es (SX.swap V8)))
          have KSb := hide (sseq_any (SX.es V8))
          rw [(unhide HV5).2.2.2.1] at KSa
          rw [(unhide HV5).2.2.2.2] at KSb
          have KA := hide (alive7_any W12)
          have HB12 := hide V8.bel
          clear hz b12 V8 HV7 HV5 HV3
          go_wp2_with fail
          refine (unhide KSa).mono ?_
          rintro e w13 ⟨rfl, rfl⟩
          go_wp2_with fail
          refine (unhide KSb).mono ?_
          rintro e w14 ⟨rfl, rfl⟩
          go_wp2_with (first | (go_at_call 14; refine (unhide KA).mono ?_; rintro e w3 ⟨rfl, b3⟩))
          go_ret
          exact ⟨rfl, bw_tr (unhide HB12) b3⟩
end Go.Proofs.YtckddmdgmjekdaaGreat
