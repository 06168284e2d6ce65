/- LedgerApart, the walk. -/
import Derived.Test.YthlbdajnkdkocaaDoorZ22
namespace Go.Proofs.YthlbdajnkdkocaaDoor
open Go.RowKit Go.Maps
theorem appX_any {w : World} {v : Value} {l : List Lg} {c : Cm} {x : Cv} {k : Nat} (h : Lgs w v l) (hs : SzL k l) (hk : k < 1073741824) (hc : CmR w c x) (hsc : SmC c) (hT : Tab w) :
    Calls Tryd.prog 9 #[v, cmV c x] w fun e w' => ∃ (a : Option Addr) (q : Nat), e = .returned (.tuple #[.slice a (appL l c).length q, .int .i64 (appE l c)]) ∧ Hid (Lgs w' (.slice a (appL l c).length q) (appL l c)) ∧ Below w.heap.size w w' := by
  refine (lgAppend_any h (hs.sm (by omega)) hc hsc hT).mono ?_
  rintro e w' ⟨v', xs', rfl, ho, hb⟩
  obtain ⟨a, q, hv⟩ := own_slice ho.row
  subst hv
  exact ⟨a, q, rfl, ho.lgs ((hs.app hsc).sm (by omega)), hb⟩
set_option maxRecDepth 100000 in
set_option maxHeartbeats 8000000 in
theorem LedgerApart_walk (W : World) (v : Value) (l : List Lg) (h : Lgs W v l) (hT : Tab W) (c : Cm) (x : Cv) (hc : CmR W c x) (d : Cm) (y : Cv) (hd : CmR W d y) :
    Calls Tryd.prog 4 #[v, cmV c x, cmV d y] W fun e w' => e = .returned (.bool true) ∧ Below W.heap.size W w' := by
  obtain ⟨ca1, ck1, ce1⟩ := hc.adds.slice
  obtain ⟨ca2, ck2, ce2⟩ := nums_slice hc.rem
  obtain ⟨ca3, ck3, ce3⟩ := hc.seals.slice
  obtain ⟨ca4, ck4, ce4⟩ := hc.joins.slice
  obtain ⟨ca5, ck5, ce5⟩ := hc.next.slice
  obtain ⟨da1, dk1, de1⟩ := hd.adds.slice
  obtain ⟨da2, dk2, de2⟩ := nums_slice hd.rem
  obtain ⟨da3, dk3, de3⟩ := hd.seals.slice
  obtain ⟨da4, dk4, de4⟩ := hd.joins.slice
  obtain ⟨da5, dk5, de5⟩ := hd.next.slice
  obtain ⟨cg0, chg0⟩ : ∃ z, z = c.gr := ⟨_, rfl⟩
  obtain ⟨cg1, chg1⟩ : ∃ z, z = c.ep := ⟨_, rfl⟩
  obtain ⟨cg2, chg2⟩ : ∃ z, z = c.dev := ⟨_, rfl⟩
  obtain ⟨cg3, chg3⟩ : ∃ z, z = c.mem := ⟨_, rfl⟩
  obtain ⟨cg4, chg4⟩ : ∃ z, z = c.ke := ⟨_, rfl⟩
  obtain ⟨cg5, chg5⟩ : ∃ z, z = c.ext := ⟨_, rfl⟩
  obtain ⟨cg10, chg10⟩ : ∃ z, z = c.own := ⟨_, rfl⟩
  obtain ⟨cg11, chg11⟩ : ∃ z, z = c.ent := ⟨_, rfl⟩
  obtain ⟨cg13, chg13⟩ : ∃ z, z = c.face := ⟨_, rfl⟩
  obtain ⟨cg14, chg14⟩ : ∃ z, z = c.card := ⟨_, rfl⟩
  obtain ⟨cLA, chLA⟩ : ∃ z, z = c.adds.length := ⟨_, rfl⟩
  obtain ⟨cLR, chLR⟩ : ∃ z, z = c.rem.length := ⟨_, rfl⟩
  obtain ⟨cLQ, chLQ⟩ : ∃ z, z = c.seals.length := ⟨_, rfl⟩
  obtain ⟨cLJ, chLJ⟩ : ∃ z, z = c.joins.length := ⟨_, rfl⟩
  obtain ⟨cLN, chLN⟩ : ∃ z, z = c.next.length := ⟨_, rfl⟩
  have cV : cmV c x = .agg #[.int .i64 cg0, .int .i64 cg1, .int .i64 cg2, .int .i64 cg3, .int .i64 cg4, .bool cg5, .slice ca1 cLA ck1, .slice ca2 cLR ck2, .slice ca3 cLQ ck3, .slice ca4 cLJ ck4, .int .i64 cg10, .int .i64 cg11, .slice ca5 cLN ck5, .int .i64 cg13, .int .i64 cg14] := by unfold cmV cmC; rw [ce1, ce2, ce3, ce4, ce5, chg0, chg1, chg2, chg3, chg4, chg5, chg10, chg11, chg13, chg14, chLA, chLR, chLQ, chLJ, chLN]
  obtain ⟨dg0, dhg0⟩ : ∃ z, z = d.gr := ⟨_, rfl⟩
  obtain ⟨dg1, dhg1⟩ : ∃ z, z = d.ep := ⟨_, rfl⟩
  obtain ⟨dg2, dhg2⟩ : ∃ z, z = d.dev := ⟨_, rfl⟩
  obtain ⟨dg3, dhg3⟩ : ∃ z, z = d.mem := ⟨_, rfl⟩
  obtain ⟨dg4, dhg4⟩ : ∃ z, z = d.ke := ⟨_, rfl⟩
  obtain ⟨dg5, dhg5⟩ : ∃ z, z = d.ext := ⟨_, rfl⟩
  obtain ⟨dg10, dhg10⟩ : ∃ z, z = d.own := ⟨_, rfl⟩
  obtain ⟨dg11, dhg11⟩ : ∃ z, z = d.ent := ⟨_, rfl⟩
  obtain ⟨dg13, dhg13⟩ : ∃ z, z = d.face := ⟨_, rfl⟩
  obtain ⟨dg14, dhg14⟩ : ∃ z, z = d.card := ⟨_, rfl⟩
  obtain ⟨dLA, dhLA⟩ : ∃ z, z = d.adds.length := ⟨_, rfl⟩
  obtain ⟨dLR, dhLR⟩ : ∃ z, z = d.rem.length := ⟨_, rfl⟩
  obtain ⟨dLQ, dhLQ⟩ : ∃ z, z = d.seals.length := ⟨_, rfl⟩
  obtain ⟨dLJ, dhLJ⟩ : ∃ z, z = d.joins.length := ⟨_, rfl⟩
  obtain ⟨dLN, dhLN⟩ : ∃ z, z = d.next.length := ⟨_, rfl⟩
  have dV : cmV d y = .agg #[.int .i64 dg0, .int .i64 dg1, .int .i64 dg2, .int .i64 dg3, .int .i64 dg4, .bool dg5, .slice da1 dLA dk1, .slice da2 dLR dk2, .slice da3 dLQ dk3, .slice da4 dLJ dk4, .int .i64 dg10, .int .i64 dg11, .slice da5 dLN dk5, .int .i64 dg13, .int .i64 dg14] := by unfold cmV cmC; rw [de1, de2, de3, de4, de5, dhg0, dhg1, dhg2, dhg3, dhg4, dhg5, dhg10, dhg11, dhg13, dhg14, dhLA, dhLR, dhLQ, dhLJ, dhLN]
  obtain ⟨W0, hW0⟩ : ∃ z, z = (W.alloc (.cells #[.int .i64 cg0, .int .i64 cg1, .int .i64 cg2, .int .i64 cg3, .int .i64 cg4, .bool cg5, .slice ca1 cLA ck1, .slice ca2 cLR ck2, .slice ca3 cLQ ck3, .slice ca4 cLJ ck4, .int .i64 cg10, .int .i64 cg11, .slice ca5 cLN ck5, .int .i64 cg13, .int .i64 cg14] 31)).alloc (.cells #[.int .i64 dg0, .int .i64 dg1, .int .i64 dg2, .int .i64 dg3, .int .i64 dg4, .bool dg5, .slice da1 dLA dk1, .slice da2 dLR dk2, .slice da3 dLQ dk3, .slice da4 dLJ dk4, .int .i64 dg10, .int .i64 dg11, .slice da5 dLN dk5, .int .i64 dg13, .int .i64 dg14] 31) := ⟨_, rfl⟩
  have s0 : TwoB W W0 31 #[.int .i64 cg0, .int .i64 cg1, .int .i64 cg2, .int .i64 cg3, .int .i64 cg4, .bool cg5, .slice ca1 cLA ck1, .slice ca2 cLR ck2, .slice ca3 cLQ ck3, .slice ca4 cLJ ck4, .int .i64 cg10, .int .i64 cg11, .slice ca5 cLN ck5, .int .i64 cg13, .int .i64 cg14] #[.int .i64 dg0, .int .i64 dg1, .int .i64 dg2, .int .i64 dg3, .int .i64 dg4, .bool dg5, .slice da1 dLA dk1, .slice da2 dLR dk2, .slice da3 dLQ dk3, .slice da4 dLJ dk4, .int .i64 dg10, .int .i64 dg11, .slice da5 dLN dk5, .int .i64 dg13, .int .i64 dg14] := by rw [hW0]; exact TwoB.start _ _ _ _
  have HSb : Hid (∀ z, Below W0.heap.size W0 z → (z.cell? ⟨W.heap.size, 0, none⟩ = some (.int .i64 cg0) ∧ z.cell? ⟨W.heap.size, 1, none⟩ = some (.int .i64 cg1) ∧ z.cell? ⟨W.heap.size, 2, none⟩ = some (.int .i64 cg2) ∧ z.cell? ⟨W.heap.size, 3, none⟩ = some (.int .i64 cg3) ∧ z.cell? ⟨W.heap.size, 4, none⟩ = some (.int .i64 cg4) ∧ z.cell? ⟨W.heap.size, 5, none⟩ = some (.bool cg5) ∧ z.cell? ⟨W.heap.size, 6, none⟩ = some (.slice ca1 cLA ck1) ∧ z.cell? ⟨W.heap.size, 7, none⟩ = some (.slice ca2 cLR ck2) ∧ z.cell? ⟨W.heap.size, 8, none⟩ = some (.slice ca3 cLQ ck3) ∧ z.cell? ⟨W.heap.size, 9, none⟩ = some (.slice ca4 cLJ ck4) ∧ z.cell? ⟨W.heap.size, 10, none⟩ = some (.int .i64 cg10) ∧ z.cell? ⟨W.heap.size, 11, none⟩ = some (.int .i64 cg11) ∧ z.cell? ⟨W.heap.size, 12, none⟩ = some (.slice ca5 cLN ck5) ∧ z.cell? ⟨W.heap.size, 13, none⟩ = some (.int .i64 cg13) ∧ z.cell? ⟨W.heap.size, 14, none⟩ = some (.int .i64 cg14)) ∧ (z.cell? ⟨W.heap.size + 1, 0, none⟩ = some (.int .i64 dg0) ∧ z.cell? ⟨W.heap.size + 1, 1, none⟩ = some (.int .i64 dg1) ∧ z.cell? ⟨W.heap.size + 1, 2, none⟩ = some (.int .i64 dg2) ∧ z.cell? ⟨W.heap.size + 1, 3, none⟩ = some (.int .i64 dg3) ∧ z.cell? ⟨W.heap.size + 1, 4, none⟩ = some (.int .i64 dg4) ∧ z.cell? ⟨W.heap.size + 1, 5, none⟩ = some (.bool dg5) ∧ z.cell? ⟨W.heap.size + 1, 6, none⟩ = some (.slice da1 dLA dk1) ∧ z.cell? ⟨W.heap.size + 1, 7, none⟩ = some (.slice da2 dLR dk2) ∧ z.cell? ⟨W.heap.size + 1, 8, none⟩ = some (.slice da3 dLQ dk3) ∧ z.cell? ⟨W.heap.size + 1, 9, none⟩ = some (.slice da4 dLJ dk4) ∧ z.cell? ⟨W.heap.size + 1, 10, none⟩ = some (.int .i64 dg10) ∧ z.cell? ⟨W.heap.size + 1, 11, none⟩ = some (.int .i64 dg11) ∧ z.cell? ⟨W.heap.size + 1, 12, none⟩ = some (.slice da5 dLN dk5) ∧ z.cell? ⟨W.heap.size + 1, 13, none⟩ = some (.int .i64 dg13) ∧ z.cell? ⟨W.heap.size + 1, 14, none⟩ = some (.int .i64 dg14))) := fun z hz => by
    have s1 := s0.bw hz
    exact ⟨⟨blk_c s1.k1 rfl, blk_c s1.k1 rfl, blk_c s1.k1 rfl, blk_c s1.k1 rfl, blk_c s1.k1 rfl, blk_c s1.k1 rfl, blk_c s1.k1 rfl, blk_c s1.k1 rfl, blk_c s1.k1 rfl, blk_c s1.k1 rfl, blk_c s1.k1 rfl, blk_c s1.k1 rfl, blk_c s1.k1 rfl, blk_c s1.k1 rfl, blk_c s1.k1 rfl⟩, ⟨blk_c s1.k2 rfl, blk_c s1.k2 rfl, blk_c s1.k2 rfl, blk_c s1.k2 rfl, blk_c s1.k2 rfl, blk_c s1.k2 rfl, blk_c s1.k2 rfl, blk_c s1.k2 rfl, blk_c s1.k2 rfl, blk_c s1.k2 rfl, blk_c s1.k2 rfl, blk_c s1.k2 rfl, blk_c s1.k2 rfl, blk_c s1.k2 rfl, blk_c s1.k2 rfl⟩⟩
  have HS0 := hide (unhide HSb W0 (Below.refl _ _))
  have b0 := s0.bel
  have KZ := hide (lsize_any (h.bw (bw_tr b0 (Below.refl _ _).drew)))
  have KC : Hid (∀ z, Below W0.heap.size W0 z → Calls Tryd.prog 8 #[.agg #[.int .i64 cg0, .int .i64 cg1, .int .i64 cg2, .int .i64 cg3, .int .i64 cg4, .bool cg5, .slice ca1 cLA ck1, .slice ca2 cLR ck2, .slice ca3 cLQ ck3, .slice ca4 cLJ ck4, .int .i64 cg10, .int .i64 cg11, .slice ca5 cLN ck5, .int .i64 cg13, .int .i64 cg14]] z fun e w' => ∃ n : Nat, e = .returned (.int .i64 (n : Int)) ∧ n ≤ 2251799813685248 ∧ (n ≤ 262144 → n = cmN c) ∧ Below z.heap.size z w') := fun z hz => by rw [← cV]; exact cmsize_any (hc.bw (bw_tr b0 hz))
  have KD : Hid (∀ z, Below W0.heap.size W0 z → Calls Tryd.prog 8 #[.agg #[.int .i64 dg0, .int .i64 dg1, .int .i64 dg2, .int .i64 dg3, .int .i64 dg4, .bool dg5, .slice da1 dLA dk1, .slice da2 dLR dk2, .slice da3 dLQ dk3, .slice da4 dLJ dk4, .int .i64 dg10, .int .i64 dg11, .slice da5 dLN dk5, .int .i64 dg13, .int .i64 dg14]] z fun e w' => ∃ n : Nat, e = .returned (.int .i64 (n : Int)) ∧ n ≤ 2251799813685248 ∧ (n ≤ 262144 → n = cmN d) ∧ Below z.heap.size z w') := fun z hz => by rw [← dV]; exact cmsize_any (hd.bw (bw_tr b0 hz))
  have KA : Hid (∀ w, Below W.heap.size W w → Calls Tryd.prog 10 #[] w fun e w' => e = .returned (.bool true) ∧ Below w.heap.size w w') := fun w hw => alive14_any (hT.bw hw)
  have HSZ : Hid (l.length + lsN l ≤ 262144 → cmN c ≤ 262144 → cmN d ≤ 262144 → SzL 262144 l ∧ SmC c ∧ SmC d) := fun q1 q2 q3 => ⟨szL_of h q1, smC_of hc (by omega), smC_of hd (by omega)⟩
  have KP : Hid (∀ (w : World) (u : Value) (L : List Lg) (k : Nat), Below W.heap.size W w → Lgs w u L → SzL k L → k < 1073741824 → SmC c → Calls Tryd.prog 9 #[u, .agg #[.int .i64 cg0, .int .i64 cg1, .int .i64 cg2, .int .i64 cg3, .int .i64 cg4, .bool cg5, .slice ca1 cLA ck1, .slice ca2 cLR ck2, .slice ca3 cLQ ck3, .slice ca4 cLJ ck4, .int .i64 cg10, .int .i64 cg11, .slice ca5 cLN ck5, .int .i64 cg13, .int .i64 cg14]] w fun e w' => ∃ (a : Option Addr) (q : Nat), e = .returned (.tuple #[.slice a (appL L c).length q, .int .i64 (appE L c)]) ∧ Hid (Lgs w' (.slice a (appL L c).length q) (appL L c)) ∧ Below w.heap.size w w') := fun w u L k hw hL hk hk2 hsc => by rw [← cV]; exact appX_any hL hk hk2 (hc.bw hw) hsc (hT.bw hw)
  have KQ : Hid (∀ (w : World) (u : Value) (L : List Lg) (k : Nat), Below W.heap.size W w → Lgs w u L → SzL k L → k < 1073741824 → SmC d → Calls Tryd.prog 9 #[u, .agg #[.int .i64 dg0, .int .i64 dg1, .int .i64 dg2, .int .i64 dg3, .int .i64 dg4, .bool dg5, .slice da1 dLA dk1, .slice da2 dLR dk2, .slice da3 dLQ dk3, .slice da4 dLJ dk4, .int .i64 dg10, .int .i64 dg11, .slice da5 dLN dk5, .int .i64 dg13, .int .i64 dg14]] w fun e w' => ∃ (a : Option Addr) (q : Nat), e = .returned (.tuple #[.slice a (appL L d).length q, .int .i64 (appE L d)]) ∧ Hid (Lgs w' (.slice a (appL L d).length q) (appL L d)) ∧ Below w.heap.size w w') := fun w u L k hw hL hk hk2 hsc => by rw [← dV]; exact appX_any hL hk hk2 (hd.bw hw) hsc (hT.bw hw)
  have HB0 := hide b0
  have HH := hide h
  have HG := hide (And.intro chg0 dhg0)
  obtain ⟨a, cap, hv⟩ := h.slice
  obtain ⟨NL, hNL⟩ : ∃ z, z = l.length := ⟨_, rfl⟩
  rw [← hNL] at hv
  subst hv
  rw [cV, dV]
  have HW := hide hW0
  clear h hc hd hT s0 b0 hW0 hNL cV dV ce1 ce2 ce3 ce4 ce5 de1 de2 de3 de4 de5 chg0 chg1 chg2 chg3 chg4 chg5 chLA chLR chLQ chLJ chg10 chg11 chLN chg13 chg14 dhg0 dhg1 dhg2 dhg3 dhg4 dhg5 dhLA dhLR dhLQ dhLJ dhg10 dhg11 dhLN dhg13 dhg14
  go_enter Tryd.func4, Tryd.ntmps4
  go_upto_region 1 with fail
  rw [← unhide HW]
  clear HW
  refine wp_region_held_drew (S := fun w' : World => (w'.cell? ⟨W.heap.size, 0, none⟩ = some (.int .i64 cg0) ∧ w'.cell? ⟨W.heap.size, 1, none⟩ = some (.int .i64 cg1) ∧ w'.cell? ⟨W.heap.size, 2, none⟩ = some (.int .i64 cg2) ∧ w'.cell? ⟨W.heap.size, 3, none⟩ = some (.int .i64 cg3) ∧ w'.cell? ⟨W.heap.size, 4, none⟩ = some (.int .i64 cg4) ∧ w'.cell? ⟨W.heap.size, 5, none⟩ = some (.bool cg5) ∧ w'.cell? ⟨W.heap.size, 6, none⟩ = some (.slice ca1 cLA ck1) ∧ w'.cell? ⟨W.heap.size, 7, none⟩ = some (.slice ca2 cLR ck2) ∧ w'.cell? ⟨W.heap.size, 8, none⟩ = some (.slice ca3 cLQ ck3) ∧ w'.cell? ⟨W.heap.size, 9, none⟩ = some (.slice ca4 cLJ ck4) ∧ w'.cell? ⟨W.heap.size, 10, none⟩ = some (.int .i64 cg10) ∧ w'.cell? ⟨W.heap.size, 11, none⟩ = some (.int .i64 cg11) ∧ w'.cell? ⟨W.heap.size, 12, none⟩ = some (.slice ca5 cLN ck5) ∧ w'.cell? ⟨W.heap.size, 13, none⟩ = some (.int .i64 cg13) ∧ w'.cell? ⟨W.heap.size, 14, none⟩ = some (.int .i64 cg14)) ∧ (w'.cell? ⟨W.heap.size + 1, 0, none⟩ = some (.int .i64 dg0) ∧ w'.cell? ⟨W.heap.size + 1, 1, none⟩ = some (.int .i64 dg1) ∧ w'.cell? ⟨W.heap.size + 1, 2, none⟩ = some (.int .i64 dg2) ∧ w'.cell? ⟨W.heap.size + 1, 3, none⟩ = some (.int .i64 dg3) ∧ w'.cell? ⟨W.heap.size + 1, 4, none⟩ = some (.int .i64 dg4) ∧ w'.cell? ⟨W.heap.size + 1, 5, none⟩ = some (.bool dg5) ∧ w'.cell? ⟨W.heap.size + 1, 6, none⟩ = some (.slice da1 dLA dk1) ∧ w'.cell? ⟨W.heap.size + 1, 7, none⟩ = some (.slice da2 dLR dk2) ∧ w'.cell? ⟨W.heap.size + 1, 8, none⟩ = some (.slice da3 dLQ dk3) ∧ w'.cell? ⟨W.heap.size + 1, 9, none⟩ = some (.slice da4 dLJ dk4) ∧ w'.cell? ⟨W.heap.size + 1, 10, none⟩ = some (.int .i64 dg10) ∧ w'.cell? ⟨W.heap.size + 1, 11, none⟩ = some (.int .i64 dg11) ∧ w'.cell? ⟨W.heap.size + 1, 12, none⟩ = some (.slice da5 dLN dk5) ∧ w'.cell? ⟨W.heap.size + 1, 13, none⟩ = some (.int .i64 dg13) ∧ w'.cell? ⟨W.heap.size + 1, 14, none⟩ = some (.int .i64 dg14))) (by kernel_rfl) (unhide HS0) (fun hHeld => ?_)
  refine wpAnyH_take (i := 0) (oi := { dst := some 15, op := Op.move (Operand.tmp 0), type := 22, pos := "more.go:11", after := #[], guard := none }) (v := ?v0n) rfl (by kernel_rfl) (by kernel_rfl) (by kernel_rfl) (fun _ _ _ h => h) (Or.inl ⟨by rfl, ?hy0n⟩) (by exact hHeld) ?_
  case hy0n => (intro w hSw; (try dsimp only at hSw); go_simp; try (with_reducible rfl))
  try simp only [Act.put, List.setIfInBounds_toArray, List.set_cons_zero, List.set_cons_succ]
  refine wpAnyH_take (i := 2) (oi := { dst := some 17, op := Op.load 31 (Operand.tmp 4), type := 31, pos := "more.go:11", after := #[], guard := none }) (v := ?v2n) rfl (by kernel_rfl) (by kernel_rfl) (by kernel_rfl) (fun _ _ _ h => h) (Or.inl ⟨by rfl, ?hy2n⟩) (by exact hHeld) ?_
  case hy2n => (intro w hSw; (try dsimp only at hSw); go_simp; try (with_reducible rfl))
  try simp only [Act.put, List.setIfInBounds_toArray, List.set_cons_zero, List.set_cons_succ]
  refine wpAnyH_take (i := 4) (oi := { dst := some 19, op := Op.load 31 (Operand.tmp 5), type := 31, pos := "more.go:11", after := #[], guard := none }) (v := ?v4n) rfl (by kernel_rfl) (by kernel_rfl) (by kernel_rfl) (fun _ _ _ h => h) (Or.inl ⟨by rfl, ?hy4n⟩) (by exact hHeld) ?_
  case hy4n => (intro w hSw; (try dsimp only at hSw); go_simp; try (with_reducible rfl))
  try simp only [Act.put, List.setIfInBounds_toArray, List.set_cons_zero, List.set_cons_succ]
  refine wpAnyH_ready (rs := [1]) (by kernel_rfl) (by simp) ?_
  refine AllReadyH.cons (o := { dst := some 16, op := Op.call { callee := Callee.value (Operand.func 7), args := #[Operand.tmp 15], argTypes := #[22] }, type := 3, pos := "more.go:11", after := #[{ on := 0, ground := Ground.data }], guard := none }) rfl (fun K hK => ?_) AllReadyH.nil
  go_simp
  refine (unhide KZ).mono ?_
  rintro e z1 ⟨n, rfl, hn, hnl, b1⟩
  have S1 := unhide HSb z1 (bw_tr (Below.refl _ _).drew b1)
  go_wp2_with fail
  refine hK.out _ _ S1 (fun _ => ?_)
  clear hK K
  try simp only [Act.put, List.setIfInBounds_toArray, List.set_cons_zero, List.set_cons_succ]
  refine wpAnyH_ready (rs := [3]) (by kernel_rfl) (by simp) ?_
  refine AllReadyH.cons (o := { dst := some 18, op := Op.call { callee := Callee.value (Operand.func 8), args := #[Operand.tmp 17], argTypes := #[31] }, type := 3, pos := "more.go:11", after := #[{ on := 2, ground := Ground.data }, { on := 1, ground := Ground.chain }], guard := none }) rfl (fun K hK => ?_) AllReadyH.nil
  go_simp
  refine (unhide KC z1 (bw_tr (Below.refl _ _).drew b1)).mono ?_
  rintro e z2 ⟨m, rfl, hm, hml, b2⟩
  have bz2 := bw_tr (bw_tr (Below.refl _ _).drew b1) b2
  have S2 := unhide HSb z2 bz2
  go_wp2_with fail
  refine hK.out _ _ S2 (fun _ => ?_)
  clear hK K
  try simp only [Act.put, List.setIfInBounds_toArray, List.set_cons_zero, List.set_cons_succ]
  refine wpAnyH_ready (rs := [5]) (by kernel_rfl) (by simp) ?_
  refine AllReadyH.cons (o := { dst := some 20, op := Op.call { callee := Callee.value (Operand.func 8), args := #[Operand.tmp 19], argTypes := #[31] }, type := 3, pos := "more.go:11", after := #[{ on := 4, ground := Ground.data }, { on := 3, ground := Ground.chain }], guard := none }) rfl (fun K hK => ?_) AllReadyH.nil
  go_simp
  refine (unhide KD z2 bz2).mono ?_
  rintro e z3 ⟨q, rfl, hq, hql, b3⟩
  have bz3 := bw_tr bz2 b3
  have S3 := unhide HSb z3 bz3
  go_wp2_with fail
  refine hK.out _ _ S3 (fun _ => ?_)
  clear hK K
  try simp only [Act.put, List.setIfInBounds_toArray, List.set_cons_zero, List.set_cons_succ]
  refine wpAnyH_ready (rs := [6]) (by kernel_rfl) (by simp) ?_
  refine AllReadyH.cons (o := { dst := some 21, op := Op.buildSlice 24 3 #[(0, Operand.tmp 16), (1, Operand.tmp 18), (2, Operand.tmp 20)], type := 24, pos := "more.go:11", after := #[{ on := 1, ground := Ground.data }, { on := 3, ground := Ground.data }, { on := 5, ground := Ground.data }], guard := none }) rfl (fun K hK => ?_) AllReadyH.nil
  go_simp
  have bz4 := bw_tr bz3 (bwA z3 (.cells #[.int .i64 (n : Int), .int .i64 (m : Int), .int .i64 (q : Int)] 3))
  have S4 := unhide HSb _ bz4
  refine hK.out _ _ S4 (fun _ => ?_)
  clear hK K
  try simp only [Act.put, List.setIfInBounds_toArray, List.set_cons_zero, List.set_cons_succ]
  refine wpAnyH_ready (rs := [7]) (by kernel_rfl) (by simp) ?_
  refine AllReadyH.cons (o := { dst := some 22, op := Op.call { callee := Callee.value (Operand.func 6), args := #[Operand.tmp 21], argTypes := #[24] }, type := 4, pos := "more.go:11", after := #[{ on := 6, ground := Ground.data }, { on := 5, ground := Ground.chain }], guard := none }) rfl (fun K hK => ?_) AllReadyH.nil
  go_simp
  refine (beyond14c z3.heap.size n m q 3 _ hn (by omega) (by omega) (blk_c (heap_alloc_new _ _) rfl) (blk_c (heap_alloc_new _ _) rfl) (blk_c (heap_alloc_new _ _) rfl)).mono ?_
  rintro e z5 ⟨zb, rfl, hz5, hzb⟩
  subst hz5
  go_wp2_with fail
  refine hK.out _ _ S4 (fun _ => ?_)
  clear hK K
  try simp only [Act.put, List.setIfInBounds_toArray, List.set_cons_zero, List.set_cons_succ]
  have HZ := hide (bw_tr (unhide HB0) bz4)
  have HZb := hide bz4
  have HNS : Hid (zb = false → SzL 262144 l ∧ SmC c ∧ SmC d) := fun q => by
    have q1 := hzb q
    have q2 := hnl (by omega)
    have q3 := hml (by omega)
    have q4 := hql (by omega)
    exact unhide HSZ (by omega) (by omega) (by omega)
  clear hzb hnl hml hql HSZ KZ KC KD
  cases zb with
  | true =>
    refine wpAnyH_take (i := 8) (oi := { dst := some 23, op := Op.move (Operand.tmp 22), type := 4, pos := "more.go:11", after := #[{ on := 7, ground := Ground.data }, { on := 7, ground := Ground.chain }], guard := none }) (v := ?v8o) rfl (by kernel_rfl) (by kernel_rfl) (by kernel_rfl) (fun _ _ _ h => h) (Or.inl ⟨by rfl, ?hy8o⟩) (by exact S4) ?_
    case hy8o => (intro w hSw; (try dsimp only at hSw); go_simp; try (with_reducible rfl))
    try simp only [Act.put, List.setIfInBounds_toArray, List.set_cons_zero, List.set_cons_succ]
    refine wpAnyH_take (i := 9) (oi := { dst := some 24, op := Op.fieldAddr 31 (Operand.tmp 4) 0, type := 0, pos := "more.go:11", after := #[{ on := 8, ground := Ground.guard }], guard := some (8, false) }) (v := undef) rfl (by kernel_rfl) (by kernel_rfl) (by kernel_rfl) (fun _ _ _ h => h) (Or.inr ⟨by rfl, rfl⟩) (by exact S4) ?_
    try simp only [Act.put, List.setIfInBounds_toArray, List.set_cons_zero, List.set_cons_succ]
    refine wpAnyH_take (i := 10) (oi := { dst := some 25, op := Op.load 3 (Operand.tmp 24), type := 3, pos := "more.go:11", after := #[{ on := 9, ground := Ground.data }, { on := 8, ground := Ground.guard }], guard := some (8, false) }) (v := undef) rfl (by kernel_rfl) (by kernel_rfl) (by kernel_rfl) (fun _ _ _ h => h) (Or.inr ⟨by rfl, rfl⟩) (by exact S4) ?_
    try simp only [Act.put, List.setIfInBounds_toArray, List.set_cons_zero, List.set_cons_succ]
    refine wpAnyH_take (i := 11) (oi := { dst := some 26, op := Op.fieldAddr 31 (Operand.tmp 5) 0, type := 0, pos := "more.go:11", after := #[{ on := 8, ground := Ground.guard }], guard := some (8, false) }) (v := undef) rfl (by kernel_rfl) (by kernel_rfl) (by kernel_rfl) (fun _ _ _ h => h) (Or.inr ⟨by rfl, rfl⟩) (by exact S4) ?_
    try simp only [Act.put, List.setIfInBounds_toArray, List.set_cons_zero, List.set_cons_succ]
    refine wpAnyH_take (i := 12) (oi := { dst := some 27, op := Op.load 3 (Operand.tmp 26), type := 3, pos := "more.go:11", after := #[{ on := 11, ground := Ground.data }, { on := 8, ground := Ground.guard }], guard := some (8, false) }) (v := undef) rfl (by kernel_rfl) (by kernel_rfl) (by kernel_rfl) (fun _ _ _ h => h) (Or.inr ⟨by rfl, rfl⟩) (by exact S4) ?_
    try simp only [Act.put, List.setIfInBounds_toArray, List.set_cons_zero, List.set_cons_succ]
    refine wpAnyH_take (i := 13) (oi := { dst := some 28, op := Op.binOp BinOp.eql 3 (Operand.tmp 25) (Operand.tmp 27) 3, type := 4, pos := "more.go:11", after := #[{ on := 10, ground := Ground.data }, { on := 12, ground := Ground.data }, { on := 8, ground := Ground.guard }], guard := some (8, false) }) (v := undef) rfl (by kernel_rfl) (by kernel_rfl) (by kernel_rfl) (fun _ _ _ h => h) (Or.inr ⟨by rfl, rfl⟩) (by exact S4) ?_
    try simp only [Act.put, List.setIfInBounds_toArray, List.set_cons_zero, List.set_cons_succ]
    refine wpAnyH_take (i := 14) (oi := { dst := some 29, op := Op.pick (Operand.tmp 23) (Operand.const (Value.bool true)) (Operand.tmp 28), type := 4, pos := "more.go:11", after := #[{ on := 8, ground := Ground.data }, { on := 13, ground := Ground.data }], guard := none }) (v := ?v14o) rfl (by kernel_rfl) (by kernel_rfl) (by kernel_rfl) (fun _ _ _ h => h) (Or.inl ⟨by rfl, ?hy14o⟩) (by exact S4) ?_
    case hy14o => (intro w hSw; (try dsimp only at hSw); go_simp; try (with_reducible rfl))
    try simp only [Act.put, List.setIfInBounds_toArray, List.set_cons_zero, List.set_cons_succ]
    refine wpAnyH_done (by kernel_rfl) ?_ _
    go_wp2_with fail
    refine (unhide KA _ (unhide HZ)).mono ?_
    rintro e z9 ⟨rfl, b9⟩
    have B9 := hide (bw_tr (unhide HZ) b9)
    clear b9
    go_wp2_with fail
    go_ret
    exact ⟨rfl, unhide B9⟩
  | false =>
    by_cases hg : cg0 = dg0
    · have hg2 : (cg0 == dg0) = true := by simp [hg]
      refine wpAnyH_take (i := 8) (oi := { dst := some 23, op := Op.move (Operand.tmp 22), type := 4, pos := "more.go:11", after := #[{ on := 7, ground := Ground.data }, { on := 7, ground := Ground.chain }], guard := none }) (v := ?v8p) rfl (by kernel_rfl) (by kernel_rfl) (by kernel_rfl) (fun _ _ _ h => h) (Or.inl ⟨by rfl, ?hy8p⟩) (by exact S4) ?_
      case hy8p => (intro w hSw; (try dsimp only at hSw); go_simp; try (with_reducible rfl))
      try simp only [Act.put, List.setIfInBounds_toArray, List.set_cons_zero, List.set_cons_succ]
      refine wpAnyH_take (i := 9) (oi := { dst := some 24, op := Op.fieldAddr 31 (Operand.tmp 4) 0, type := 0, pos := "more.go:11", after := #[{ on := 8, ground := Ground.guard }], guard := some (8, false) }) (v := ?v9p) rfl (by kernel_rfl) (by kernel_rfl) (by kernel_rfl) (fun _ _ _ h => h) (Or.inl ⟨by rfl, ?hy9p⟩) (by exact S4) ?_
      case hy9p => (intro w hSw; (try dsimp only at hSw); go_simp; try (with_reducible rfl))
      try simp only [Act.put, List.setIfInBounds_toArray, List.set_cons_zero, List.set_cons_succ]
      refine wpAnyH_take (i := 10) (oi := { dst := some 25, op := Op.load 3 (Operand.tmp 24), type := 3, pos := "more.go:11", after := #[{ on := 9, ground := Ground.data }, { on := 8, ground := Ground.guard }], guard := some (8, false) }) (v := ?v10p) rfl (by kernel_rfl) (by kernel_rfl) (by kernel_rfl) (fun _ _ _ h => h) (Or.inl ⟨by rfl, ?hy10p⟩) (by exact S4) ?_
      case hy10p => (intro w hSw; (try dsimp only at hSw); go_simp; try (with_reducible rfl))
      try simp only [Act.put, List.setIfInBounds_toArray, List.set_cons_zero, List.set_cons_succ]
      refine wpAnyH_take (i := 11) (oi := { dst := some 26, op := Op.fieldAddr 31 (Operand.tmp 5) 0, type := 0, pos := "more.go:11", after := #[{ on := 8, ground := Ground.guard }], guard := some (8, false) }) (v := ?v11p) rfl (by kernel_rfl) (by kernel_rfl) (by kernel_rfl) (fun _ _ _ h => h) (Or.inl ⟨by rfl, ?hy11p⟩) (by exact S4) ?_
      case hy11p => (intro w hSw; (try dsimp only at hSw); go_simp; try (with_reducible rfl))
      try simp only [Act.put, List.setIfInBounds_toArray, List.set_cons_zero, List.set_cons_succ]
      refine wpAnyH_take (i := 12) (oi := { dst := some 27, op := Op.load 3 (Operand.tmp 26), type := 3, pos := "more.go:11", after := #[{ on := 11, ground := Ground.data }, { on := 8, ground := Ground.guard }], guard := some (8, false) }) (v := ?v12p) rfl (by kernel_rfl) (by kernel_rfl) (by kernel_rfl) (fun _ _ _ h => h) (Or.inl ⟨by rfl, ?hy12p⟩) (by exact S4) ?_
      case hy12p => (intro w hSw; (try dsimp only at hSw); go_simp; try (with_reducible rfl))
      try simp only [Act.put, List.setIfInBounds_toArray, List.set_cons_zero, List.set_cons_succ]
      refine wpAnyH_take (i := 13) (oi := { dst := some 28, op := Op.binOp BinOp.eql 3 (Operand.tmp 25) (Operand.tmp 27) 3, type := 4, pos := "more.go:11", after := #[{ on := 10, ground := Ground.data }, { on := 12, ground := Ground.data }, { on := 8, ground := Ground.guard }], guard := some (8, false) }) (v := ?v13p) rfl (by kernel_rfl) (by kernel_rfl) (by kernel_rfl) (fun _ _ _ h => h) (Or.inl ⟨by rfl, ?hy13p⟩) (by exact S4) ?_
      case hy13p => (intro w hSw; (try dsimp only at hSw); go_simp; try (with_reducible rfl))
      try simp only [Act.put, List.setIfInBounds_toArray, List.set_cons_zero, List.set_cons_succ]
      refine wpAnyH_take (i := 14) (oi := { dst := some 29, op := Op.pick (Operand.tmp 23) (Operand.const (Value.bool true)) (Operand.tmp 28), type := 4, pos := "more.go:11", after := #[{ on := 8, ground := Ground.data }, { on := 13, ground := Ground.data }], guard := none }) (v := ?v14p) rfl (by kernel_rfl) (by kernel_rfl) (by kernel_rfl) (fun _ _ _ h => h) (Or.inl ⟨by rfl, ?hy14p⟩) (by exact S4) ?_
      case hy14p => (intro w hSw; (try dsimp only at hSw); go_simp; try (with_reducible rfl))
      try simp only [Act.put, List.setIfInBounds_toArray, List.set_cons_zero, List.set_cons_succ]
      refine wpAnyH_done (by kernel_rfl) ?_ _
      go_wp2_with fail
      refine (unhide KA _ (unhide HZ)).mono ?_
      rintro e z9 ⟨rfl, b9⟩
      have B9 := hide (bw_tr (unhide HZ) b9)
      clear b9
      go_wp2_with fail
      go_ret
      exact ⟨rfl, unhide B9⟩
    · have hg2 : (cg0 == dg0) = false := by simp [hg]
      have hg3 : decide (cg0 = dg0) = false := decide_eq_false hg
      refine wpAnyH_take (i := 8) (oi := { dst := some 23, op := Op.move (Operand.tmp 22), type := 4, pos := "more.go:11", after := #[{ on := 7, ground := Ground.data }, { on := 7, ground := Ground.chain }], guard := none }) (v := ?v8q) rfl (by kernel_rfl) (by kernel_rfl) (by kernel_rfl) (fun _ _ _ h => h) (Or.inl ⟨by rfl, ?hy8q⟩) (by exact S4) ?_
      case hy8q => (intro w hSw; (try dsimp only at hSw); go_simp; try (with_reducible rfl))
      try simp only [Act.put, List.setIfInBounds_toArray, List.set_cons_zero, List.set_cons_succ]
      refine wpAnyH_take (i := 9) (oi := { dst := some 24, op := Op.fieldAddr 31 (Operand.tmp 4) 0, type := 0, pos := "more.go:11", after := #[{ on := 8, ground := Ground.guard }], guard := some (8, false) }) (v := ?v9q) rfl (by kernel_rfl) (by kernel_rfl) (by kernel_rfl) (fun _ _ _ h => h) (Or.inl ⟨by rfl, ?hy9q⟩) (by exact S4) ?_
      case hy9q => (intro w hSw; (try dsimp only at hSw); go_simp; try (with_reducible rfl))
      try simp only [Act.put, List.setIfInBounds_toArray, List.set_cons_zero, List.set_cons_succ]
      refine wpAnyH_take (i := 10) (oi := { dst := some 25, op := Op.load 3 (Operand.tmp 24), type := 3, pos := "more.go:11", after := #[{ on := 9, ground := Ground.data }, { on := 8, ground := Ground.guard }], guard := some (8, false) }) (v := ?v10q) rfl (by kernel_rfl) (by kernel_rfl) (by kernel_rfl) (fun _ _ _ h => h) (Or.inl ⟨by rfl, ?hy10q⟩) (by exact S4) ?_
      case hy10q => (intro w hSw; (try dsimp only at hSw); go_simp; try (with_reducible rfl))
      try simp only [Act.put, List.setIfInBounds_toArray, List.set_cons_zero, List.set_cons_succ]
      refine wpAnyH_take (i := 11) (oi := { dst := some 26, op := Op.fieldAddr 31 (Operand.tmp 5) 0, type := 0, pos := "more.go:11", after := #[{ on := 8, ground := Ground.guard }], guard := some (8, false) }) (v := ?v11q) rfl (by kernel_rfl) (by kernel_rfl) (by kernel_rfl) (fun _ _ _ h => h) (Or.inl ⟨by rfl, ?hy11q⟩) (by exact S4) ?_
      case hy11q => (intro w hSw; (try dsimp only at hSw); go_simp; try (with_reducible rfl))
      try simp only [Act.put, List.setIfInBounds_toArray, List.set_cons_zero, List.set_cons_succ]
      refine wpAnyH_take (i := 12) (oi := { dst := some 27, op := Op.load 3 (Operand.tmp 26), type := 3, pos := "more.go:11", after := #[{ on := 11, ground := Ground.data }, { on := 8, ground := Ground.guard }], guard := some (8, false) }) (v := ?v12q) rfl (by kernel_rfl) (by kernel_rfl) (by kernel_rfl) (fun _ _ _ h => h) (Or.inl ⟨by rfl, ?hy12q⟩) (by exact S4) ?_
      case hy12q => (intro w hSw; (try dsimp only at hSw); go_simp; try (with_reducible rfl))
      try simp only [Act.put, List.setIfInBounds_toArray, List.set_cons_zero, List.set_cons_succ]
      refine wpAnyH_take (i := 13) (oi := { dst := some 28, op := Op.binOp BinOp.eql 3 (Operand.tmp 25) (Operand.tmp 27) 3, type := 4, pos := "more.go:11", after := #[{ on := 10, ground := Ground.data }, { on := 12, ground := Ground.data }, { on := 8, ground := Ground.guard }], guard := some (8, false) }) (v := ?v13q) rfl (by kernel_rfl) (by kernel_rfl) (by kernel_rfl) (fun _ _ _ h => h) (Or.inl ⟨by rfl, ?hy13q⟩) (by exact S4) ?_
      case hy13q => (intro w hSw; (try dsimp only at hSw); go_simp; try (with_reducible rfl))
      try simp only [Act.put, List.setIfInBounds_toArray, List.set_cons_zero, List.set_cons_succ]
      refine wpAnyH_take (i := 14) (oi := { dst := some 29, op := Op.pick (Operand.tmp 23) (Operand.const (Value.bool true)) (Operand.tmp 28), type := 4, pos := "more.go:11", after := #[{ on := 8, ground := Ground.data }, { on := 13, ground := Ground.data }], guard := none }) (v := ?v14q) rfl (by kernel_rfl) (by kernel_rfl) (by kernel_rfl) (fun _ _ _ h => h) (Or.inl ⟨by rfl, ?hy14q⟩) (by exact S4) ?_
      case hy14q => (intro w hSw; (try dsimp only at hSw); go_simp; try (with_reducible rfl))
      try simp only [Act.put, List.setIfInBounds_toArray, List.set_cons_zero, List.set_cons_succ]
      refine wpAnyH_done (by kernel_rfl) ?_ _
      obtain ⟨hS, hsc, hsd⟩ := unhide HNS rfl
      have HSS := hide (And.intro hS (And.intro hsc hsd))
      have HGG : Hid (c.gr ≠ d.gr) := by unfold Hid; rw [← (unhide HG).1, ← (unhide HG).2]; exact hg
      clear hS hsc hsd HNS hg hg2 hg3 HG
      generalize hZ5 : (z3.alloc (.cells #[.int .i64 (n : Int), .int .i64 (m : Int), .int .i64 (q : Int)] 3)) = Z5 at *
      clear hZ5 S1 S2 S3 b1 b2 b3 bz2 bz3 bz4
      have S5 := hide S4
      obtain ⟨⟨cs0, cs1, cs2, cs3, cs4, cs5, cs6, cs7, cs8, cs9, cs10, cs11, cs12, cs13, cs14⟩, ⟨ds0, ds1, ds2, ds3, ds4, ds5, ds6, ds7, ds8, ds9, ds10, ds11, ds12, ds13, ds14⟩⟩ := S4
      have K1 := hide (unhide KP Z5 _ l 262144 (unhide HZ) ((unhide HH).bw (unhide HZ)) (unhide HSS).1 (by omega) (unhide HSS).2.1)
      go_wp2_with fail
      refine (unhide K1).mono ?_
      rintro e w6 ⟨a6, q6, rfl, l6, b6⟩
      have B6 := hide (bw_tr (unhide HZ) b6)
      have S6 := unhide HSb w6 (bw_tr (unhide HZb) b6)
      have HZb6 := hide (bw_tr (unhide HZb) b6)
      have K2 := hide (unhide KQ w6 _ _ 262145 (unhide B6) (unhide l6) ((unhide HSS).1.app (unhide HSS).2.1) (by omega) (unhide HSS).2.2)
      have HE1 : Hid (appE l c = 0 → appL l c = insl l c) := fun q => by unfold appL; rw [if_pos q]
      obtain ⟨E1, hE1⟩ : ∃ z, z = appE l c := ⟨_, rfl⟩
      obtain ⟨A1, hA1⟩ : ∃ z, z = appL l c := ⟨_, rfl⟩
      obtain ⟨N1, hN1⟩ : ∃ z, z = A1.length := ⟨_, rfl⟩
      rw [← hA1] at K2 HE1 l6
      rw [← hE1] at HE1
      rw [← hA1, ← hE1]
      rw [← hN1] at K2 l6 ⊢
      have HE := hide (And.intro hE1 hA1)
      clear hE1 hA1 hN1 b6 K1 cs0 cs1 cs2 cs3 cs4 cs5 cs6 cs7 cs8 cs9 cs10 cs11 cs12 cs13 cs14 ds0 ds1 ds2 ds3 ds4 ds5 ds6 ds7 ds8 ds9 ds10 ds11 ds12 ds13 ds14
      obtain ⟨⟨cs0, cs1, cs2, cs3, cs4, cs5, cs6, cs7, cs8, cs9, cs10, cs11, cs12, cs13, cs14⟩, ⟨ds0, ds1, ds2, ds3, ds4, ds5, ds6, ds7, ds8, ds9, ds10, ds11, ds12, ds13, ds14⟩⟩ := S6
      go_wp2_with fail
      refine (unhide K2).mono ?_
      rintro e w7 ⟨a7, q7, rfl, l7, b7⟩
      have B7 := hide (bw_tr (unhide B6) b7)
      have S7 := unhide HSb w7 (bw_tr (unhide HZb6) b7)
      have HZb7 := hide (bw_tr (unhide HZb6) b7)
      obtain ⟨E2, hE2⟩ : ∃ z, z = appE A1 d := ⟨_, rfl⟩
      obtain ⟨A2, hA2⟩ : ∃ z, z = appL A1 d := ⟨_, rfl⟩
      obtain ⟨N2, hN2⟩ : ∃ z, z = A2.length := ⟨_, rfl⟩
      rw [← hA2] at l7
      rw [← hA2, ← hE2]
      rw [← hN2] at l7 ⊢
      have HF := hide (And.intro hE2 hA2)
      clear hE2 hA2 hN2 b7 K2 B6 l6 HZb6 cs0 cs1 cs2 cs3 cs4 cs5 cs6 cs7 cs8 cs9 cs10 cs11 cs12 cs13 cs14 ds0 ds1 ds2 ds3 ds4 ds5 ds6 ds7 ds8 ds9 ds10 ds11 ds12 ds13 ds14
      by_cases h1 : E1 = 0
      · by_cases h2 : E2 = 0
        · obtain ⟨p1, p2, p3⟩ := app_comm (unhide HGG) (show appE l c = 0 by rw [← (unhide HE).1]; exact h1) (show appE (insl l c) d = 0 by rw [← unhide HE1 h1, ← (unhide HF).1]; exact h2)
          have HA2 : Hid (A2 = insl (insl l d) c) := by
            unfold Hid
            rw [(unhide HF).2, unhide HE1 h1, ← p3]
            unfold appL
            rw [if_pos (by rw [← unhide HE1 h1, ← (unhide HF).1]; exact h2)]
          have HX : Hid (appE l d = 0 ∧ appL l d = insl l d ∧ appE (insl l d) c = 0 ∧ appL (insl l d) c = insl (insl l d) c) := ⟨p1, by unfold appL; rw [if_pos p1], p2, by unfold appL; rw [if_pos p2]⟩
          subst h1 h2
          clear p1 p2 p3 HE HE1 HF HGG
          obtain ⟨⟨cs0, cs1, cs2, cs3, cs4, cs5, cs6, cs7, cs8, cs9, cs10, cs11, cs12, cs13, cs14⟩, ⟨ds0, ds1, ds2, ds3, ds4, ds5, ds6, ds7, ds8, ds9, ds10, ds11, ds12, ds13, ds14⟩⟩ := S7
          have K3 := unhide KQ w7 _ l 262144 (unhide B7) ((unhide HH).bw (unhide B7)) (unhide HSS).1 (by omega) (unhide HSS).2.2
          rw [(unhide HX).1, (unhide HX).2.1] at K3
          have K3h := hide K3
          clear K3
          go_wp2_with fail
          refine (unhide K3h).mono ?_
          rintro e w8 ⟨a8, q8, rfl, l8, b8⟩
          have B8 := hide (bw_tr (unhide B7) b8)
          have S8 := unhide HSb w8 (bw_tr (unhide HZb7) b8)
          have l7' := hide ((unhide l7).bw b8)
          have K4 := unhide KP w8 _ (insl l d) 262145 (unhide B8) (unhide l8) ((unhide HSS).1.ins (unhide HSS).2.2) (by omega) (unhide HSS).2.1
          rw [(unhide HX).2.2.1, (unhide HX).2.2.2] at K4
          have K4h := hide K4
          obtain ⟨N3, hN3⟩ : ∃ z, z = (insl l d).length := ⟨_, rfl⟩
          rw [← hN3] at K4h ⊢
          clear K4 b8 K3h B7 l7 HZb7 hN3 l8 cs0 cs1 cs2 cs3 cs4 cs5 cs6 cs7 cs8 cs9 cs10 cs11 cs12 cs13 cs14 ds0 ds1 ds2 ds3 ds4 ds5 ds6 ds7 ds8 ds9 ds10 ds11 ds12 ds13 ds14
          obtain ⟨⟨cs0, cs1, cs2, cs3, cs4, cs5, cs6, cs7, cs8, cs9, cs10, cs11, cs12, cs13, cs14⟩, ⟨ds0, ds1, ds2, ds3, ds4, ds5, ds6, ds7, ds8, ds9, ds10, ds11, ds12, ds13, ds14⟩⟩ := S8
          go_wp2_with fail
          refine (unhide K4h).mono ?_
          rintro e w9 ⟨a9, q9, rfl, l9, b9⟩
          have B9 := hide (bw_tr (unhide B8) b9)
          have l7'' := (unhide l7').bw b9
          have l9' := unhide l9
          rw [← unhide HA2] at l9'
          have KS := hide (samelogs_any l7'' l9')
          obtain ⟨N4, hN4⟩ : ∃ z, z = (insl (insl l d) c).length := ⟨_, rfl⟩
          have hN24 : N4 = N2 := by
            obtain ⟨_, _, e8⟩ := l7''.slice
            rw [hN4, ← unhide HA2]
            cases e8; rfl
          rw [unhide HA2, ← hN4] at KS
          rw [← hN4]
          clear b9 K4h B8 l7'' l9' l9 l7' hN4 hN24 cs0 cs1 cs2 cs3 cs4 cs5 cs6 cs7 cs8 cs9 cs10 cs11 cs12 cs13 cs14 ds0 ds1 ds2 ds3 ds4 ds5 ds6 ds7 ds8 ds9 ds10 ds11 ds12 ds13 ds14
          go_wp2_with fail
          refine (unhide KS).mono ?_
          rintro e w10 ⟨rfl, b10⟩
          have B10 := hide (bw_tr (unhide B9) b10)
          clear b10 KS B9
          go_wp2_with fail
          refine (unhide KA w10 (unhide B10)).mono ?_
          rintro e w11 ⟨rfl, b11⟩
          have B11 := hide (bw_tr (unhide B10) b11)
          clear b11
          go_wp2_with fail
          go_ret
          exact ⟨rfl, unhide B11⟩
        · have h3 : (E2 == 0) = false := by simp [h2]
          subst h1
          clear S7
          go_wp2_with fail
          refine (unhide KA w7 (unhide B7)).mono ?_
          rintro e z9 ⟨rfl, b9⟩
          have B9 := hide (bw_tr (unhide B7) b9)
          clear b9
          go_wp2_with fail
          go_ret
          exact ⟨rfl, unhide B9⟩
      · have h3 : (E1 == 0) = false := by simp [h1]
        clear S7
        go_wp2_with fail
        refine (unhide KA w7 (unhide B7)).mono ?_
        rintro e z9 ⟨rfl, b9⟩
        have B9 := hide (bw_tr (unhide B7) b9)
        clear b9
        go_wp2_with fail
        go_ret
        exact ⟨rfl, unhide B9⟩
end Go.Proofs.YthlbdajnkdkocaaDoor
