/- LedgerFirst, the walk. -/
import Derived.Test.YthlbdajnkdkocaaDoorLgLawApart
import Derived.Deep.RegionLaw
namespace Go.Proofs.YthlbdajnkdkocaaDoor
open Go.RowKit Go.Maps
set_option maxRecDepth 100000 in
set_option maxHeartbeats 8000000 in
theorem LedgerFirst_walk (W : World) (v : Value) (l : List Lg) (h : Lgs W v l) (hT : Tab W) (c : Cm) (x : Cv) (hc : CmR W c x) (d : Cm) (y : Cv) (hd : CmR W d y) :
    Calls Tryd.prog 3 #[v, cmV c x, cmV d y] W fun e w' => e = .returned (.bool true) ∧ Below W.heap.size W w' := by
  obtain ⟨ca1, ck1, ce1⟩ := hc.adds.slice
  obtain ⟨ca2, ck2, ce2⟩ := nums_slice hc.rem
  obtain ⟨ca3, ck3, ce3⟩ := hc.seals.slice
  obtain ⟨ca4, ck4, ce4⟩ := hc.joins.slice
  obtain ⟨ca5, ck5, ce5⟩ := hc.next.slice
  obtain ⟨da1, dk1, de1⟩ := hd.adds.slice
  obtain ⟨da2, dk2, de2⟩ := nums_slice hd.rem
  obtain ⟨da3, dk3, de3⟩ := hd.seals.slice
  obtain ⟨da4, dk4, de4⟩ := hd.joins.slice
  obtain ⟨da5, dk5, de5⟩ := hd.next.slice
  obtain ⟨cg0, chg0⟩ : ∃ z, z = c.gr := ⟨_, rfl⟩
  obtain ⟨cg1, chg1⟩ : ∃ z, z = c.ep := ⟨_, rfl⟩
  obtain ⟨cg2, chg2⟩ : ∃ z, z = c.dev := ⟨_, rfl⟩
  obtain ⟨cg3, chg3⟩ : ∃ z, z = c.mem := ⟨_, rfl⟩
  obtain ⟨cg4, chg4⟩ : ∃ z, z = c.ke := ⟨_, rfl⟩
  obtain ⟨cg5, chg5⟩ : ∃ z, z = c.ext := ⟨_, rfl⟩
  obtain ⟨cg10, chg10⟩ : ∃ z, z = c.own := ⟨_, rfl⟩
  obtain ⟨cg11, chg11⟩ : ∃ z, z = c.ent := ⟨_, rfl⟩
  obtain ⟨cg13, chg13⟩ : ∃ z, z = c.face := ⟨_, rfl⟩
  obtain ⟨cg14, chg14⟩ : ∃ z, z = c.card := ⟨_, rfl⟩
  obtain ⟨cLA, chLA⟩ : ∃ z, z = c.adds.length := ⟨_, rfl⟩
  obtain ⟨cLR, chLR⟩ : ∃ z, z = c.rem.length := ⟨_, rfl⟩
  obtain ⟨cLQ, chLQ⟩ : ∃ z, z = c.seals.length := ⟨_, rfl⟩
  obtain ⟨cLJ, chLJ⟩ : ∃ z, z = c.joins.length := ⟨_, rfl⟩
  obtain ⟨cLN, chLN⟩ : ∃ z, z = c.next.length := ⟨_, rfl⟩
  have cV : cmV c x = .agg #[.int .i64 cg0, .int .i64 cg1, .int .i64 cg2, .int .i64 cg3, .int .i64 cg4, .bool cg5, .slice ca1 cLA ck1, .slice ca2 cLR ck2, .slice ca3 cLQ ck3, .slice ca4 cLJ ck4, .int .i64 cg10, .int .i64 cg11, .slice ca5 cLN ck5, .int .i64 cg13, .int .i64 cg14] := by unfold cmV cmC; rw [ce1, ce2, ce3, ce4, ce5, chg0, chg1, chg2, chg3, chg4, chg5, chg10, chg11, chg13, chg14, chLA, chLR, chLQ, chLJ, chLN]
  obtain ⟨dg0, dhg0⟩ : ∃ z, z = d.gr := ⟨_, rfl⟩
  obtain ⟨dg1, dhg1⟩ : ∃ z, z = d.ep := ⟨_, rfl⟩
  obtain ⟨dg2, dhg2⟩ : ∃ z, z = d.dev := ⟨_, rfl⟩
  obtain ⟨dg3, dhg3⟩ : ∃ z, z = d.mem := ⟨_, rfl⟩
  obtain ⟨dg4, dhg4⟩ : ∃ z, z = d.ke := ⟨_, rfl⟩
  obtain ⟨dg5, dhg5⟩ : ∃ z, z = d.ext := ⟨_, rfl⟩
  obtain ⟨dg10, dhg10⟩ : ∃ z, z = d.own := ⟨_, rfl⟩
  obtain ⟨dg11, dhg11⟩ : ∃ z, z = d.ent := ⟨_, rfl⟩
  obtain ⟨dg13, dhg13⟩ : ∃ z, z = d.face := ⟨_, rfl⟩
  obtain ⟨dg14, dhg14⟩ : ∃ z, z = d.card := ⟨_, rfl⟩
  obtain ⟨dLA, dhLA⟩ : ∃ z, z = d.adds.length := ⟨_, rfl⟩
  obtain ⟨dLR, dhLR⟩ : ∃ z, z = d.rem.length := ⟨_, rfl⟩
  obtain ⟨dLQ, dhLQ⟩ : ∃ z, z = d.seals.length := ⟨_, rfl⟩
  obtain ⟨dLJ, dhLJ⟩ : ∃ z, z = d.joins.length := ⟨_, rfl⟩
  obtain ⟨dLN, dhLN⟩ : ∃ z, z = d.next.length := ⟨_, rfl⟩
  have dV : cmV d y = .agg #[.int .i64 dg0, .int .i64 dg1, .int .i64 dg2, .int .i64 dg3, .int .i64 dg4, .bool dg5, .slice da1 dLA dk1, .slice da2 dLR dk2, .slice da3 dLQ dk3, .slice da4 dLJ dk4, .int .i64 dg10, .int .i64 dg11, .slice da5 dLN dk5, .int .i64 dg13, .int .i64 dg14] := by unfold cmV cmC; rw [de1, de2, de3, de4, de5, dhg0, dhg1, dhg2, dhg3, dhg4, dhg5, dhg10, dhg11, dhg13, dhg14, dhLA, dhLR, dhLQ, dhLJ, dhLN]
  obtain ⟨W0, hW0⟩ : ∃ z, z = (W.alloc (.cells #[.int .i64 cg0, .int .i64 cg1, .int .i64 cg2, .int .i64 cg3, .int .i64 cg4, .bool cg5, .slice ca1 cLA ck1, .slice ca2 cLR ck2, .slice ca3 cLQ ck3, .slice ca4 cLJ ck4, .int .i64 cg10, .int .i64 cg11, .slice ca5 cLN ck5, .int .i64 cg13, .int .i64 cg14] 31)).alloc (.cells #[.int .i64 dg0, .int .i64 dg1, .int .i64 dg2, .int .i64 dg3, .int .i64 dg4, .bool dg5, .slice da1 dLA dk1, .slice da2 dLR dk2, .slice da3 dLQ dk3, .slice da4 dLJ dk4, .int .i64 dg10, .int .i64 dg11, .slice da5 dLN dk5, .int .i64 dg13, .int .i64 dg14] 31) := ⟨_, rfl⟩
  have s0 : TwoB W W0 31 #[.int .i64 cg0, .int .i64 cg1, .int .i64 cg2, .int .i64 cg3, .int .i64 cg4, .bool cg5, .slice ca1 cLA ck1, .slice ca2 cLR ck2, .slice ca3 cLQ ck3, .slice ca4 cLJ ck4, .int .i64 cg10, .int .i64 cg11, .slice ca5 cLN ck5, .int .i64 cg13, .int .i64 cg14] #[.int .i64 dg0, .int .i64 dg1, .int .i64 dg2, .int .i64 dg3, .int .i64 dg4, .bool dg5, .slice da1 dLA dk1, .slice da2 dLR dk2, .slice da3 dLQ dk3, .slice da4 dLJ dk4, .int .i64 dg10, .int .i64 dg11, .slice da5 dLN dk5, .int .i64 dg13, .int .i64 dg14] := by rw [hW0]; exact TwoB.start _ _ _ _
  have HSb : Hid (∀ z, Below W0.heap.size W0 z → (z.cell? ⟨W.heap.size, 0, none⟩ = some (.int .i64 cg0) ∧ z.cell? ⟨W.heap.size, 1, none⟩ = some (.int .i64 cg1) ∧ z.cell? ⟨W.heap.size, 2, none⟩ = some (.int .i64 cg2) ∧ z.cell? ⟨W.heap.size, 3, none⟩ = some (.int .i64 cg3) ∧ z.cell? ⟨W.heap.size, 4, none⟩ = some (.int .i64 cg4) ∧ z.cell? ⟨W.heap.size, 5, none⟩ = some (.bool cg5) ∧ z.cell? ⟨W.heap.size, 6, none⟩ = some (.slice ca1 cLA ck1) ∧ z.cell? ⟨W.heap.size, 7, none⟩ = some (.slice ca2 cLR ck2) ∧ z.cell? ⟨W.heap.size, 8, none⟩ = some (.slice ca3 cLQ ck3) ∧ z.cell? ⟨W.heap.size, 9, none⟩ = some (.slice ca4 cLJ ck4) ∧ z.cell? ⟨W.heap.size, 10, none⟩ = some (.int .i64 cg10) ∧ z.cell? ⟨W.heap.size, 11, none⟩ = some (.int .i64 cg11) ∧ z.cell? ⟨W.heap.size, 12, none⟩ = some (.slice ca5 cLN ck5) ∧ z.cell? ⟨W.heap.size, 13, none⟩ = some (.int .i64 cg13) ∧ z.cell? ⟨W.heap.size, 14, none⟩ = some (.int .i64 cg14)) ∧ (z.cell? ⟨W.heap.size + 1, 0, none⟩ = some (.int .i64 dg0) ∧ z.cell? ⟨W.heap.size + 1, 1, none⟩ = some (.int .i64 dg1) ∧ z.cell? ⟨W.heap.size + 1, 2, none⟩ = some (.int .i64 dg2) ∧ z.cell? ⟨W.heap.size + 1, 3, none⟩ = some (.int .i64 dg3) ∧ z.cell? ⟨W.heap.size + 1, 4, none⟩ = some (.int .i64 dg4) ∧ z.cell? ⟨W.heap.size + 1, 5, none⟩ = some (.bool dg5) ∧ z.cell? ⟨W.heap.size + 1, 6, none⟩ = some (.slice da1 dLA dk1) ∧ z.cell? ⟨W.heap.size + 1, 7, none⟩ = some (.slice da2 dLR dk2) ∧ z.cell? ⟨W.heap.size + 1, 8, none⟩ = some (.slice da3 dLQ dk3) ∧ z.cell? ⟨W.heap.size + 1, 9, none⟩ = some (.slice da4 dLJ dk4) ∧ z.cell? ⟨W.heap.size + 1, 10, none⟩ = some (.int .i64 dg10) ∧ z.cell? ⟨W.heap.size + 1, 11, none⟩ = some (.int .i64 dg11) ∧ z.cell? ⟨W.heap.size + 1, 12, none⟩ = some (.slice da5 dLN dk5) ∧ z.cell? ⟨W.heap.size + 1, 13, none⟩ = some (.int .i64 dg13) ∧ z.cell? ⟨W.heap.size + 1, 14, none⟩ = some (.int .i64 dg14))) := fun z hz => by
    have s1 := s0.bw hz
    exact ⟨⟨blk_c s1.k1 rfl, blk_c s1.k1 rfl, blk_c s1.k1 rfl, blk_c s1.k1 rfl, blk_c s1.k1 rfl, blk_c s1.k1 rfl, blk_c s1.k1 rfl, blk_c s1.k1 rfl, blk_c s1.k1 rfl, blk_c s1.k1 rfl, blk_c s1.k1 rfl, blk_c s1.k1 rfl, blk_c s1.k1 rfl, blk_c s1.k1 rfl, blk_c s1.k1 rfl⟩, ⟨blk_c s1.k2 rfl, blk_c s1.k2 rfl, blk_c s1.k2 rfl, blk_c s1.k2 rfl, blk_c s1.k2 rfl, blk_c s1.k2 rfl, blk_c s1.k2 rfl, blk_c s1.k2 rfl, blk_c s1.k2 rfl, blk_c s1.k2 rfl, blk_c s1.k2 rfl, blk_c s1.k2 rfl, blk_c s1.k2 rfl, blk_c s1.k2 rfl, blk_c s1.k2 rfl⟩⟩
  have HS0 := hide (unhide HSb W0 (Below.refl _ _))
  have b0 := s0.bel
  have KZ := hide (lsize_any (h.bw (bw_tr b0 (Below.refl _ _).drew)))
  have KC : Hid (∀ z, Below W0.heap.size W0 z → Calls Tryd.prog 8 #[.agg #[.int .i64 cg0, .int .i64 cg1, .int .i64 cg2, .int .i64 cg3, .int .i64 cg4, .bool cg5, .slice ca1 cLA ck1, .slice ca2 cLR ck2, .slice ca3 cLQ ck3, .slice ca4 cLJ ck4, .int .i64 cg10, .int .i64 cg11, .slice ca5 cLN ck5, .int .i64 cg13, .int .i64 cg14]] z fun e w' => ∃ n : Nat, e = .returned (.int .i64 (n : Int)) ∧ n ≤ 2251799813685248 ∧ (n ≤ 262144 → n = cmN c) ∧ Below z.heap.size z w') := fun z hz => by rw [← cV]; exact cmsize_any (hc.bw (bw_tr b0 hz))
  have KD : Hid (∀ z, Below W0.heap.size W0 z → Calls Tryd.prog 8 #[.agg #[.int .i64 dg0, .int .i64 dg1, .int .i64 dg2, .int .i64 dg3, .int .i64 dg4, .bool dg5, .slice da1 dLA dk1, .slice da2 dLR dk2, .slice da3 dLQ dk3, .slice da4 dLJ dk4, .int .i64 dg10, .int .i64 dg11, .slice da5 dLN dk5, .int .i64 dg13, .int .i64 dg14]] z fun e w' => ∃ n : Nat, e = .returned (.int .i64 (n : Int)) ∧ n ≤ 2251799813685248 ∧ (n ≤ 262144 → n = cmN d) ∧ Below z.heap.size z w') := fun z hz => by rw [← dV]; exact cmsize_any (hd.bw (bw_tr b0 hz))
  have KA : Hid (∀ w, Below W.heap.size W w → Calls Tryd.prog 10 #[] w fun e w' => e = .returned (.bool true) ∧ Below w.heap.size w w') := fun w hw => alive14_any (hT.bw hw)
  have HSZ : Hid (l.length + lsN l ≤ 262144 → cmN c ≤ 262144 → cmN d ≤ 262144 → SzL 262144 l ∧ SmC c ∧ SmC d) := fun q1 q2 q3 => ⟨szL_of h q1, smC_of hc (by omega), smC_of hd (by omega)⟩
  have KP : Hid (∀ (w : World) (u : Value) (L : List Lg) (k : Nat), Below W.heap.size W w → Lgs w u L → SzL k L → k < 1073741824 → SmC c → Calls Tryd.prog 9 #[u, .agg #[.int .i64 cg0, .int .i64 cg1, .int .i64 cg2, .int .i64 cg3, .int .i64 cg4, .bool cg5, .slice ca1 cLA ck1, .slice ca2 cLR ck2, .slice ca3 cLQ ck3, .slice ca4 cLJ ck4, .int .i64 cg10, .int .i64 cg11, .slice ca5 cLN ck5, .int .i64 cg13, .int .i64 cg14]] w fun e w' => ∃ (a : Option Addr) (q : Nat), e = .returned (.tuple #[.slice a (appL L c).length q, .int .i64 (appE L c)]) ∧ Hid (Lgs w' (.slice a (appL L c).length q) (appL L c)) ∧ Below w.heap.size w w') := fun w u L k hw hL hk hk2 hsc => by rw [← cV]; exact appX_any hL hk hk2 (hc.bw hw) hsc (hT.bw hw)
  have KX : Hid (∀ (w : World) (L : List Lg) (u : Value), Below W.heap.size W w → Lgs w u L → SmL L → (∀ g, Calls Tryd.prog 14 #[u, .int .i64 g] w fun e w' => e = .returned (.int .i64 (lenL L g : Nat)) ∧ Below w.heap.size w w') ∧ Calls Tryd.prog 13 #[u] w fun e w' => e = .returned (.int .i64 (if chkB L = true then 0 else 1)) ∧ Below w.heap.size w w') := fun w L u hw hL hs => ⟨fun g => lgLen_any hL hs (hT.bw hw) g, lgCheck_any hL (hT.bw hw)⟩
  have KLa : Hid (∀ (w : World) (L : List Lg) (u : Value), Below W.heap.size W w → Lgs w u L → SmL L → getL L c.gr ((lenL L c.gr : Int) - 1) = some c → Calls Tryd.prog 11 #[u, .int .i64 cg0] w fun r w' => ∃ (eg0 eg1 eg2 eg3 eg4 : Int) (eg5 : Bool) (ea1 : Option Addr) (eLA ek1 : Nat) (ea2 : Option Addr) (eLR ek2 : Nat) (ea3 : Option Addr) (eLQ ek3 : Nat) (ea4 : Option Addr) (eLJ ek4 : Nat) (eg10 eg11 : Int) (ea5 : Option Addr) (eLN ek5 : Nat) (eg13 eg14 : Int), r = .returned (.tuple #[.agg #[.int .i64 eg0, .int .i64 eg1, .int .i64 eg2, .int .i64 eg3, .int .i64 eg4, .bool eg5, .slice ea1 eLA ek1, .slice ea2 eLR ek2, .slice ea3 eLQ ek3, .slice ea4 eLJ ek4, .int .i64 eg10, .int .i64 eg11, .slice ea5 eLN ek5, .int .i64 eg13, .int .i64 eg14], .bool true]) ∧ Hid (∃ z, CmR w' c z ∧ .agg #[.int .i64 eg0, .int .i64 eg1, .int .i64 eg2, .int .i64 eg3, .int .i64 eg4, .bool eg5, .slice ea1 eLA ek1, .slice ea2 eLR ek2, .slice ea3 eLQ ek3, .slice ea4 eLJ ek4, .int .i64 eg10, .int .i64 eg11, .slice ea5 eLN ek5, .int .i64 eg13, .int .i64 eg14] = cmV c z) ∧ Below w.heap.size w w') := fun w L u hw hL hs hg => by
    rw [chg0]
    refine Calls.mono (lastX_any hL hs (hT.bw hw) c.gr) ?_
    rintro r w' ⟨eg0, eg1, eg2, eg3, eg4, eg5, ea1, eLA, ek1, ea2, eLR, ek2, ea3, eLQ, ek3, ea4, eLJ, ek4, eg10, eg11, ea5, eLN, ek5, eg13, eg14, rfl, hh, hb⟩
    rw [hg] at hh ⊢
    obtain ⟨c', z, q1, q2, q3, _, _⟩ := unhide hh rfl
    cases q1
    exact ⟨eg0, eg1, eg2, eg3, eg4, eg5, ea1, eLA, ek1, ea2, eLR, ek2, ea3, eLQ, ek3, ea4, eLJ, ek4, eg10, eg11, ea5, eLN, ek5, eg13, eg14, rfl, ⟨z, q2, q3⟩, hb⟩
  have KSc : Hid (∀ (w : World) (z : Cv), Below W.heap.size W w → CmR w c z → Calls Tryd.prog 12 #[cmV c z, .agg #[.int .i64 cg0, .int .i64 cg1, .int .i64 cg2, .int .i64 cg3, .int .i64 cg4, .bool cg5, .slice ca1 cLA ck1, .slice ca2 cLR ck2, .slice ca3 cLQ ck3, .slice ca4 cLJ ck4, .int .i64 cg10, .int .i64 cg11, .slice ca5 cLN ck5, .int .i64 cg13, .int .i64 cg14]] w fun e w' => e = .returned (.bool true) ∧ Below w.heap.size w w') := fun w z hw hz => by rw [← cV]; exact samecm_any hz (hc.bw hw)
  have KQ : Hid (∀ (w : World) (u : Value) (L : List Lg) (k : Nat), Below W.heap.size W w → Lgs w u L → SzL k L → k < 1073741824 → SmC d → Calls Tryd.prog 9 #[u, .agg #[.int .i64 dg0, .int .i64 dg1, .int .i64 dg2, .int .i64 dg3, .int .i64 dg4, .bool dg5, .slice da1 dLA dk1, .slice da2 dLR dk2, .slice da3 dLQ dk3, .slice da4 dLJ dk4, .int .i64 dg10, .int .i64 dg11, .slice da5 dLN dk5, .int .i64 dg13, .int .i64 dg14]] w fun e w' => ∃ (a : Option Addr) (q : Nat), e = .returned (.tuple #[.slice a (appL L d).length q, .int .i64 (appE L d)]) ∧ Hid (Lgs w' (.slice a (appL L d).length q) (appL L d)) ∧ Below w.heap.size w w') := fun w u L k hw hL hk hk2 hsc => by rw [← dV]; exact appX_any hL hk hk2 (hd.bw hw) hsc (hT.bw hw)
  have HB0 := hide b0
  have HB2 := hide s0.two
  have HKd : Hid (∀ z, Below W0.heap.size W0 z → z.heap[W.heap.size + 1]? = some (.cells #[.int .i64 dg0, .int .i64 dg1, .int .i64 dg2, .int .i64 dg3, .int .i64 dg4, .bool dg5, .slice da1 dLA dk1, .slice da2 dLR dk2, .slice da3 dLQ dk3, .slice da4 dLJ dk4, .int .i64 dg10, .int .i64 dg11, .slice da5 dLN dk5, .int .i64 dg13, .int .i64 dg14] 31 (0, 0))) := fun z hz => (s0.bw hz).k2
  have KPo : Hid (∀ w, Below W.heap.size W w → SzL 262144 l → SmC c → Calls Tryd.prog 9 #[v, .agg #[.int .i64 cg0, .int .i64 cg1, .int .i64 cg2, .int .i64 cg3, .int .i64 cg4, .bool cg5, .slice ca1 cLA ck1, .slice ca2 cLR ck2, .slice ca3 cLQ ck3, .slice ca4 cLJ ck4, .int .i64 cg10, .int .i64 cg11, .slice ca5 cLN ck5, .int .i64 cg13, .int .i64 cg14]] w fun e w' => ∃ (a : Option Addr) (q : Nat) (xs : List (Value × List (Cv × List Value))), e = .returned (.tuple #[.slice a (appL l c).length q, .int .i64 (appE l c)]) ∧ Hid (OwL kLg w.heap.size w' (.slice a (appL l c).length q) (appL l c) xs) ∧ Hid (Lgs w' (.slice a (appL l c).length q) (appL l c)) ∧ Below w.heap.size w w') := fun w hw hS hsc => by
    rw [← cV]
    refine Calls.mono (lgAppend_any (h.bw hw) (hS.sm (by omega)) (hc.bw hw) hsc (hT.bw hw)) ?_
    rintro e w' ⟨v', xs', rfl, ho, hb⟩
    obtain ⟨a, q, hv⟩ := own_slice ho.row
    subst hv
    exact ⟨a, q, xs', rfl, ho, ho.lgs ((hS.app hsc).sm (by omega)), hb⟩
  have KGt : Hid (∀ (w : World) (u : Value) (L : List Lg) (pg : Int) (j : Nat) (dd : Cm), Below W.heap.size W w → Lgs w u L → SmL L → getL L pg (j : Int) = some dd → Calls Tryd.prog 15 #[u, .int .i64 pg, .int .i64 (j : Int)] w fun r w' => ∃ (fg0 fg1 fg2 fg3 fg4 : Int) (fg5 : Bool) (fa1 : Option Addr) (fLA fk1 : Nat) (fa2 : Option Addr) (fLR fk2 : Nat) (fa3 : Option Addr) (fLQ fk3 : Nat) (fa4 : Option Addr) (fLJ fk4 : Nat) (fg10 fg11 : Int) (fa5 : Option Addr) (fLN fk5 : Nat) (fg13 fg14 : Int), r = .returned (.tuple #[.agg #[.int .i64 fg0, .int .i64 fg1, .int .i64 fg2, .int .i64 fg3, .int .i64 fg4, .bool fg5, .slice fa1 fLA fk1, .slice fa2 fLR fk2, .slice fa3 fLQ fk3, .slice fa4 fLJ fk4, .int .i64 fg10, .int .i64 fg11, .slice fa5 fLN fk5, .int .i64 fg13, .int .i64 fg14], .bool true]) ∧ Hid (∃ z, CmR w' dd z ∧ .agg #[.int .i64 fg0, .int .i64 fg1, .int .i64 fg2, .int .i64 fg3, .int .i64 fg4, .bool fg5, .slice fa1 fLA fk1, .slice fa2 fLR fk2, .slice fa3 fLQ fk3, .slice fa4 fLJ fk4, .int .i64 fg10, .int .i64 fg11, .slice fa5 fLN fk5, .int .i64 fg13, .int .i64 fg14] = cmV dd z) ∧ Below w.heap.size w w') := fun w u L pg j dd hw hL hs hg => by
    refine Calls.mono (getX_any hL hs (hT.bw hw) pg (j : Int)) ?_
    rintro r w' ⟨fg0, fg1, fg2, fg3, fg4, fg5, fa1, fLA, fk1, fa2, fLR, fk2, fa3, fLQ, fk3, fa4, fLJ, fk4, fg10, fg11, fa5, fLN, fk5, fg13, fg14, rfl, hh, hb⟩
    rw [hg] at hh ⊢
    obtain ⟨c', z, q1, q2, q3, _, _⟩ := unhide hh rfl
    cases q1
    exact ⟨fg0, fg1, fg2, fg3, fg4, fg5, fa1, fLA, fk1, fa2, fLR, fk2, fa3, fLQ, fk3, fa4, fLJ, fk4, fg10, fg11, fa5, fLN, fk5, fg13, fg14, rfl, ⟨z, q2, q3⟩, hb⟩
  have KD2 : Hid (∀ (w : World) (u : Value) (L : List Lg), Below W.heap.size W w → Lgs w u L → SmL L → SmC d → (appE L {d with gr := c.gr, ep := c.ep} = 1 ∨ appE L {d with gr := c.gr, ep := c.ep} = 10) → Calls Tryd.prog 9 #[u, .agg #[.int .i64 cg0, .int .i64 cg1, .int .i64 dg2, .int .i64 dg3, .int .i64 dg4, .bool dg5, .slice da1 dLA dk1, .slice da2 dLR dk2, .slice da3 dLQ dk3, .slice da4 dLJ dk4, .int .i64 dg10, .int .i64 dg11, .slice da5 dLN dk5, .int .i64 dg13, .int .i64 dg14]] w fun e w' => ∃ (a : Option Addr) (q : Nat) (E : Int), e = .returned (.tuple #[.slice a 0 q, .int .i64 E]) ∧ Hid (E = 1 ∨ E = 10) ∧ Below w.heap.size w w') := fun w u L hw hL hs hsd hE => by
    have hV : Value.agg #[.int .i64 cg0, .int .i64 cg1, .int .i64 dg2, .int .i64 dg3, .int .i64 dg4, .bool dg5, .slice da1 dLA dk1, .slice da2 dLR dk2, .slice da3 dLQ dk3, .slice da4 dLJ dk4, .int .i64 dg10, .int .i64 dg11, .slice da5 dLN dk5, .int .i64 dg13, .int .i64 dg14] = cmV {d with gr := c.gr, ep := c.ep} y := by unfold cmV cmC; simp only; rw [de1, de2, de3, de4, de5, ← chg0, ← chg1, ← dhg2, ← dhg3, ← dhg4, ← dhg5, ← dhg10, ← dhg11, ← dhg13, ← dhg14, ← dhLA, ← dhLR, ← dhLQ, ← dhLJ, ← dhLN]
    rw [hV]
    have hd' := hd.bw hw
    refine Calls.mono (lgAppend_any hL hs (c := {d with gr := c.gr, ep := c.ep}) ⟨hd'.adds, hd'.rem, hd'.rlen, hd'.seals, hd'.joins, hd'.next⟩ ⟨hsd.a, hsd.r, hsd.q, hsd.j, hsd.n, hsd.u, hsd.fa, hsd.fq, hsd.fj⟩ (hT.bw hw)) ?_
    rintro e w' ⟨v', xs', rfl, ho, hb⟩
    have hap : appL L {d with gr := c.gr, ep := c.ep} = [] := by unfold appL; rw [if_neg (by rcases hE with q | q <;> rw [q] <;> decide)]
    rw [hap] at ho
    obtain ⟨a, q, hv⟩ := own_slice ho.row
    subst hv
    exact ⟨a, q, _, rfl, hE, hb⟩
  have HH := hide h
  have HG := hide (And.intro chg0 dhg0)
  obtain ⟨a, cap, hv⟩ := h.slice
  obtain ⟨NL, hNL⟩ : ∃ z, z = l.length := ⟨_, rfl⟩
  rw [← hNL] at hv
  subst hv
  rw [cV, dV]
  have HW := hide hW0
  clear h hc hd hT s0 b0 hW0 hNL cV dV ce1 ce2 ce3 ce4 ce5 de1 de2 de3 de4 de5 chg0 chg1 chg2 chg3 chg4 chg5 chLA chLR chLQ chLJ chg10 chg11 chLN chg13 chg14 dhg0 dhg1 dhg2 dhg3 dhg4 dhg5 dhLA dhLR dhLQ dhLJ dhg10 dhg11 dhLN dhg13 dhg14
  go_enter Tryd.func3, Tryd.ntmps3
  go_upto_region 1 with fail
  rw [← unhide HW]
  clear HW
  obtain ⟨SS1, HSS1⟩ : ∃ SS : World → Prop, Hid (∀ w', SS w' ↔ ((w'.cell? ⟨W.heap.size, 0, none⟩ = some (.int .i64 cg0) ∧ w'.cell? ⟨W.heap.size, 1, none⟩ = some (.int .i64 cg1) ∧ w'.cell? ⟨W.heap.size, 2, none⟩ = some (.int .i64 cg2) ∧ w'.cell? ⟨W.heap.size, 3, none⟩ = some (.int .i64 cg3) ∧ w'.cell? ⟨W.heap.size, 4, none⟩ = some (.int .i64 cg4) ∧ w'.cell? ⟨W.heap.size, 5, none⟩ = some (.bool cg5) ∧ w'.cell? ⟨W.heap.size, 6, none⟩ = some (.slice ca1 cLA ck1) ∧ w'.cell? ⟨W.heap.size, 7, none⟩ = some (.slice ca2 cLR ck2) ∧ w'.cell? ⟨W.heap.size, 8, none⟩ = some (.slice ca3 cLQ ck3) ∧ w'.cell? ⟨W.heap.size, 9, none⟩ = some (.slice ca4 cLJ ck4) ∧ w'.cell? ⟨W.heap.size, 10, none⟩ = some (.int .i64 cg10) ∧ w'.cell? ⟨W.heap.size, 11, none⟩ = some (.int .i64 cg11) ∧ w'.cell? ⟨W.heap.size, 12, none⟩ = some (.slice ca5 cLN ck5) ∧ w'.cell? ⟨W.heap.size, 13, none⟩ = some (.int .i64 cg13) ∧ w'.cell? ⟨W.heap.size, 14, none⟩ = some (.int .i64 cg14)) ∧ (w'.cell? ⟨W.heap.size + 1, 0, none⟩ = some (.int .i64 dg0) ∧ w'.cell? ⟨W.heap.size + 1, 1, none⟩ = some (.int .i64 dg1) ∧ w'.cell? ⟨W.heap.size + 1, 2, none⟩ = some (.int .i64 dg2) ∧ w'.cell? ⟨W.heap.size + 1, 3, none⟩ = some (.int .i64 dg3) ∧ w'.cell? ⟨W.heap.size + 1, 4, none⟩ = some (.int .i64 dg4) ∧ w'.cell? ⟨W.heap.size + 1, 5, none⟩ = some (.bool dg5) ∧ w'.cell? ⟨W.heap.size + 1, 6, none⟩ = some (.slice da1 dLA dk1) ∧ w'.cell? ⟨W.heap.size + 1, 7, none⟩ = some (.slice da2 dLR dk2) ∧ w'.cell? ⟨W.heap.size + 1, 8, none⟩ = some (.slice da3 dLQ dk3) ∧ w'.cell? ⟨W.heap.size + 1, 9, none⟩ = some (.slice da4 dLJ dk4) ∧ w'.cell? ⟨W.heap.size + 1, 10, none⟩ = some (.int .i64 dg10) ∧ w'.cell? ⟨W.heap.size + 1, 11, none⟩ = some (.int .i64 dg11) ∧ w'.cell? ⟨W.heap.size + 1, 12, none⟩ = some (.slice da5 dLN dk5) ∧ w'.cell? ⟨W.heap.size + 1, 13, none⟩ = some (.int .i64 dg13) ∧ w'.cell? ⟨W.heap.size + 1, 14, none⟩ = some (.int .i64 dg14)))) := ⟨fun w' => (w'.cell? ⟨W.heap.size, 0, none⟩ = some (.int .i64 cg0) ∧ w'.cell? ⟨W.heap.size, 1, none⟩ = some (.int .i64 cg1) ∧ w'.cell? ⟨W.heap.size, 2, none⟩ = some (.int .i64 cg2) ∧ w'.cell? ⟨W.heap.size, 3, none⟩ = some (.int .i64 cg3) ∧ w'.cell? ⟨W.heap.size, 4, none⟩ = some (.int .i64 cg4) ∧ w'.cell? ⟨W.heap.size, 5, none⟩ = some (.bool cg5) ∧ w'.cell? ⟨W.heap.size, 6, none⟩ = some (.slice ca1 cLA ck1) ∧ w'.cell? ⟨W.heap.size, 7, none⟩ = some (.slice ca2 cLR ck2) ∧ w'.cell? ⟨W.heap.size, 8, none⟩ = some (.slice ca3 cLQ ck3) ∧ w'.cell? ⟨W.heap.size, 9, none⟩ = some (.slice ca4 cLJ ck4) ∧ w'.cell? ⟨W.heap.size, 10, none⟩ = some (.int .i64 cg10) ∧ w'.cell? ⟨W.heap.size, 11, none⟩ = some (.int .i64 cg11) ∧ w'.cell? ⟨W.heap.size, 12, none⟩ = some (.slice ca5 cLN ck5) ∧ w'.cell? ⟨W.heap.size, 13, none⟩ = some (.int .i64 cg13) ∧ w'.cell? ⟨W.heap.size, 14, none⟩ = some (.int .i64 cg14)) ∧ (w'.cell? ⟨W.heap.size + 1, 0, none⟩ = some (.int .i64 dg0) ∧ w'.cell? ⟨W.heap.size + 1, 1, none⟩ = some (.int .i64 dg1) ∧ w'.cell? ⟨W.heap.size + 1, 2, none⟩ = some (.int .i64 dg2) ∧ w'.cell? ⟨W.heap.size + 1, 3, none⟩ = some (.int .i64 dg3) ∧ w'.cell? ⟨W.heap.size + 1, 4, none⟩ = some (.int .i64 dg4) ∧ w'.cell? ⟨W.heap.size + 1, 5, none⟩ = some (.bool dg5) ∧ w'.cell? ⟨W.heap.size + 1, 6, none⟩ = some (.slice da1 dLA dk1) ∧ w'.cell? ⟨W.heap.size + 1, 7, none⟩ = some (.slice da2 dLR dk2) ∧ w'.cell? ⟨W.heap.size + 1, 8, none⟩ = some (.slice da3 dLQ dk3) ∧ w'.cell? ⟨W.heap.size + 1, 9, none⟩ = some (.slice da4 dLJ dk4) ∧ w'.cell? ⟨W.heap.size + 1, 10, none⟩ = some (.int .i64 dg10) ∧ w'.cell? ⟨W.heap.size + 1, 11, none⟩ = some (.int .i64 dg11) ∧ w'.cell? ⟨W.heap.size + 1, 12, none⟩ = some (.slice da5 dLN dk5) ∧ w'.cell? ⟨W.heap.size + 1, 13, none⟩ = some (.int .i64 dg13) ∧ w'.cell? ⟨W.heap.size + 1, 14, none⟩ = some (.int .i64 dg14)), fun _ => Iff.rfl⟩
  refine wp_region_held_drew (S := SS1) (by kernel_rfl) ((unhide HSS1 _).2 (unhide HS0)) (fun hHeld => ?_)
  refine wpAnyH_take (i := 0) (oi := { dst := some 17, op := Op.move (Operand.tmp 0), type := 22, pos := "law.go:77", after := #[], guard := none }) (v := ?v0a) rfl (by kernel_rfl) (by kernel_rfl) (by kernel_rfl) (fun _ _ _ h => h) (Or.inl ⟨by rfl, ?hy0a⟩) (by exact hHeld) ?_
  case hy0a => (intro w hSw0; have hSw := (unhide HSS1 w).1 hSw0; clear hSw0; go_simp; try (with_reducible rfl))
  try simp only [Act.put, List.setIfInBounds_toArray, List.set_cons_zero, List.set_cons_succ]
  refine wpAnyH_take (i := 2) (oi := { dst := some 19, op := Op.load 31 (Operand.tmp 4), type := 31, pos := "law.go:77", after := #[], guard := none }) (v := ?v2a) rfl (by kernel_rfl) (by kernel_rfl) (by kernel_rfl) (fun _ _ _ h => h) (Or.inl ⟨by rfl, ?hy2a⟩) (by exact hHeld) ?_
  case hy2a => (intro w hSw0; have hSw := (unhide HSS1 w).1 hSw0; clear hSw0; go_simp; try (with_reducible rfl))
  try simp only [Act.put, List.setIfInBounds_toArray, List.set_cons_zero, List.set_cons_succ]
  refine wpAnyH_take (i := 4) (oi := { dst := some 21, op := Op.load 31 (Operand.tmp 5), type := 31, pos := "law.go:77", after := #[], guard := none }) (v := ?v4a) rfl (by kernel_rfl) (by kernel_rfl) (by kernel_rfl) (fun _ _ _ h => h) (Or.inl ⟨by rfl, ?hy4a⟩) (by exact hHeld) ?_
  case hy4a => (intro w hSw0; have hSw := (unhide HSS1 w).1 hSw0; clear hSw0; go_simp; try (with_reducible rfl))
  try simp only [Act.put, List.setIfInBounds_toArray, List.set_cons_zero, List.set_cons_succ]
  refine wpAnyH_ready (rs := [1]) (by kernel_rfl) (by simp) ?_
  refine AllReadyH.cons (o := { dst := some 18, op := Op.call { callee := Callee.value (Operand.func 7), args := #[Operand.tmp 17], argTypes := #[22] }, type := 3, pos := "law.go:77", after := #[{ on := 0, ground := Ground.data }], guard := none }) rfl (fun K hK => ?_) AllReadyH.nil
  go_simp
  refine (unhide KZ).mono ?_
  rintro e z1 ⟨n, rfl, hn, hnl, b1⟩
  have S1 := unhide HSb z1 (bw_tr (Below.refl _ _).drew b1)
  go_wp2_with fail
  refine hK.out _ _ ((unhide HSS1 _).2 S1) (fun _ => ?_)
  clear hK K
  try simp only [Act.put, List.setIfInBounds_toArray, List.set_cons_zero, List.set_cons_succ]
  refine wpAnyH_ready (rs := [3]) (by kernel_rfl) (by simp) ?_
  refine AllReadyH.cons (o := { dst := some 20, op := Op.call { callee := Callee.value (Operand.func 8), args := #[Operand.tmp 19], argTypes := #[31] }, type := 3, pos := "law.go:77", after := #[{ on := 2, ground := Ground.data }, { on := 1, ground := Ground.chain }], guard := none }) rfl (fun K hK => ?_) AllReadyH.nil
  go_simp
  refine (unhide KC z1 (bw_tr (Below.refl _ _).drew b1)).mono ?_
  rintro e z2 ⟨m, rfl, hm, hml, b2⟩
  have bz2 := bw_tr (bw_tr (Below.refl _ _).drew b1) b2
  have S2 := unhide HSb z2 bz2
  go_wp2_with fail
  refine hK.out _ _ ((unhide HSS1 _).2 S2) (fun _ => ?_)
  clear hK K
  try simp only [Act.put, List.setIfInBounds_toArray, List.set_cons_zero, List.set_cons_succ]
  refine wpAnyH_ready (rs := [5]) (by kernel_rfl) (by simp) ?_
  refine AllReadyH.cons (o := { dst := some 22, op := Op.call { callee := Callee.value (Operand.func 8), args := #[Operand.tmp 21], argTypes := #[31] }, type := 3, pos := "law.go:77", after := #[{ on := 4, ground := Ground.data }, { on := 3, ground := Ground.chain }], guard := none }) rfl (fun K hK => ?_) AllReadyH.nil
  go_simp
  refine (unhide KD z2 bz2).mono ?_
  rintro e z3 ⟨q, rfl, hq, hql, b3⟩
  have bz3 := bw_tr bz2 b3
  have S3 := unhide HSb z3 bz3
  go_wp2_with fail
  refine hK.out _ _ ((unhide HSS1 _).2 S3) (fun _ => ?_)
  clear hK K
  try simp only [Act.put, List.setIfInBounds_toArray, List.set_cons_zero, List.set_cons_succ]
  refine wpAnyH_ready (rs := [6]) (by kernel_rfl) (by simp) ?_
  refine AllReadyH.cons (o := { dst := some 23, op := Op.buildSlice 24 3 #[(0, Operand.tmp 18), (1, Operand.tmp 20), (2, Operand.tmp 22)], type := 24, pos := "law.go:77", after := #[{ on := 1, ground := Ground.data }, { on := 3, ground := Ground.data }, { on := 5, ground := Ground.data }], guard := none }) rfl (fun K hK => ?_) AllReadyH.nil
  go_simp
  have bz4 := bw_tr bz3 (bwA z3 (.cells #[.int .i64 (n : Int), .int .i64 (m : Int), .int .i64 (q : Int)] 3))
  have S4 := unhide HSb _ bz4
  refine hK.out _ _ ((unhide HSS1 _).2 S4) (fun _ => ?_)
  clear hK K
  try simp only [Act.put, List.setIfInBounds_toArray, List.set_cons_zero, List.set_cons_succ]
  refine wpAnyH_ready (rs := [7]) (by kernel_rfl) (by simp) ?_
  refine AllReadyH.cons (o := { dst := some 24, op := Op.call { callee := Callee.value (Operand.func 6), args := #[Operand.tmp 23], argTypes := #[24] }, type := 4, pos := "law.go:77", after := #[{ on := 6, ground := Ground.data }, { on := 5, ground := Ground.chain }], guard := none }) rfl (fun K hK => ?_) AllReadyH.nil
  go_simp
  refine (beyond14c z3.heap.size n m q 3 _ hn (by omega) (by omega) (blk_c (heap_alloc_new _ _) rfl) (blk_c (heap_alloc_new _ _) rfl) (blk_c (heap_alloc_new _ _) rfl)).mono ?_
  rintro e z5 ⟨zb, rfl, hz5, hzb⟩
  subst hz5
  go_wp2_with fail
  refine hK.out _ _ ((unhide HSS1 _).2 S4) (fun _ => ?_)
  clear hK K
  try simp only [Act.put, List.setIfInBounds_toArray, List.set_cons_zero, List.set_cons_succ]
  refine wpAnyH_done (by kernel_rfl) ?_ _
  have HZ := hide (bw_tr (unhide HB0) bz4)
  have HZb := hide bz4
  have HNS : Hid (zb = false → SzL 262144 l ∧ SmC c ∧ SmC d) := fun q => by
    have q1 := hzb q
    have q2 := hnl (by omega)
    have q3 := hml (by omega)
    have q4 := hql (by omega)
    exact unhide HSZ (by omega) (by omega) (by omega)
  clear hzb hnl hml hql HSZ KZ KC KD
  cases zb with
  | true =>
    go_wp2_with fail
    go_ret
    exact ⟨rfl, unhide HZ⟩
  | false =>
    obtain ⟨hS, hsc, hsd⟩ := unhide HNS rfl
    have HSS := hide (And.intro hS (And.intro hsc hsd))
    clear hS hsc hsd HNS
    generalize hZ5 : (z3.alloc (.cells #[.int .i64 (n : Int), .int .i64 (m : Int), .int .i64 (q : Int)] 3)) = Z5 at *
    clear hZ5 S1 S2 S3 b1 b2 b3 bz2 bz3 bz4
    obtain ⟨⟨cs0, cs1, cs2, cs3, cs4, cs5, cs6, cs7, cs8, cs9, cs10, cs11, cs12, cs13, cs14⟩, ⟨ds0, ds1, ds2, ds3, ds4, ds5, ds6, ds7, ds8, ds9, ds10, ds11, ds12, ds13, ds14⟩⟩ := S4
    have K1 := hide (unhide KPo Z5 (unhide HZ) (unhide HSS).1 (unhide HSS).2.1)
    go_wp2_with fail
    refine (unhide K1).mono ?_
    rintro e w6 ⟨a6, q6, xs6, rfl, o6, l6, b6⟩
    have O6 : Hid (OwL kLg (W.heap.size + 2) w6 (.slice a6 (appL l c).length q6) (appL l c) xs6) := (unhide o6).mono (by have := (unhide HB2); have := (unhide HZb).size; omega)
    clear o6
    have B6 := hide (bw_tr (unhide HZ) b6)
    have HZb6 := hide (bw_tr (unhide HZb) b6)
    have HE1 : Hid (appE l c = 0 → appL l c = insl l c) := fun q => by unfold appL; rw [if_pos q]
    have HE2 : Hid (appE l c ≠ 0 → appL l c = []) := fun q => by unfold appL; rw [if_neg q]
    obtain ⟨E1, hE1⟩ : ∃ z, z = appE l c := ⟨_, rfl⟩
    obtain ⟨A1, hA1⟩ : ∃ z, z = appL l c := ⟨_, rfl⟩
    obtain ⟨N1, hN1⟩ : ∃ z, z = A1.length := ⟨_, rfl⟩
    have HSA : Hid (SmL A1) := by unfold Hid; rw [hA1]; exact ((unhide HSS).1.app (unhide HSS).2.1).sm (by omega)
    rw [← hA1] at HE1 HE2 l6 O6
    rw [← hE1] at HE1 HE2
    rw [← hA1, ← hE1]
    rw [← hN1] at l6 O6 ⊢
    have HE := hide (And.intro hE1 hA1)
    have HN1 := hide hN1
    clear hE1 hA1 hN1 b6 K1 HZb cs0 cs1 cs2 cs3 cs4 cs5 cs6 cs7 cs8 cs9 cs10 cs11 cs12 cs13 cs14 ds0 ds1 ds2 ds3 ds4 ds5 ds6 ds7 ds8 ds9 ds10 ds11 ds12 ds13 ds14
    by_cases h1 : E1 = 0
    · have S6 := unhide HSb w6 (unhide HZb6)
      have hA := unhide HE1 h1
      have h0 : appE l c = 0 := by rw [← (unhide HE).1]; exact h1
      have KLast := hide (unhide KLa w6 A1 _ (unhide B6) (unhide l6) (unhide HSA) (by rw [hA]; exact app_last h0))
      have HP := hide (And.intro h0 hA)
      subst h1
      clear hA h0 HE HE1 HE2 KLa
      obtain ⟨⟨cs0, cs1, cs2, cs3, cs4, cs5, cs6, cs7, cs8, cs9, cs10, cs11, cs12, cs13, cs14⟩, ⟨ds0, ds1, ds2, ds3, ds4, ds5, ds6, ds7, ds8, ds9, ds10, ds11, ds12, ds13, ds14⟩⟩ := S6
      go_wp2_with fail
      refine (unhide KLast).mono ?_
      rintro r w7 ⟨eg0, eg1, eg2, eg3, eg4, eg5, ea1, eLA, ek1, ea2, eLR, ek2, ea3, eLQ, ek3, ea4, eLJ, ek4, eg10, eg11, ea5, eLN, ek5, eg13, eg14, rfl, hz, b7⟩
      obtain ⟨w8, hw8⟩ : ∃ z, z = w7.alloc (.cells #[.int .i64 eg0, .int .i64 eg1, .int .i64 eg2, .int .i64 eg3, .int .i64 eg4, .bool eg5, .slice ea1 eLA ek1, .slice ea2 eLR ek2, .slice ea3 eLQ ek3, .slice ea4 eLJ ek4, .int .i64 eg10, .int .i64 eg11, .slice ea5 eLN ek5, .int .i64 eg13, .int .i64 eg14] 31) := ⟨_, rfl⟩
      have k8 : w8.heap[w7.heap.size]? = some (.cells #[.int .i64 eg0, .int .i64 eg1, .int .i64 eg2, .int .i64 eg3, .int .i64 eg4, .bool eg5, .slice ea1 eLA ek1, .slice ea2 eLR ek2, .slice ea3 eLQ ek3, .slice ea4 eLJ ek4, .int .i64 eg10, .int .i64 eg11, .slice ea5 eLN ek5, .int .i64 eg13, .int .i64 eg14] 31 (0, 0)) := by rw [hw8]; exact heap_alloc_new _ _
      have b78 : Below w7.heap.size w7 w8 := by rw [hw8]; exact bwA w7 _
      have HW8 := hide hw8
      have B8 := hide (bw_tr (bw_tr (unhide B6) b7) b78)
      have HZ8 := hide (bw_tr (bw_tr (unhide HZb6) b7) b78)
      have L8 := hide ((unhide l6).bw (bw_tr b7 b78))
      have O8 := hide ((unhide O6).bw (bw_tr b7 b78))
      have HS7 : Hid (∀ z, Below w8.heap.size w8 z → (z.cell? ⟨W.heap.size, 0, none⟩ = some (.int .i64 cg0) ∧ z.cell? ⟨W.heap.size, 1, none⟩ = some (.int .i64 cg1) ∧ z.cell? ⟨W.heap.size, 2, none⟩ = some (.int .i64 cg2) ∧ z.cell? ⟨W.heap.size, 3, none⟩ = some (.int .i64 cg3) ∧ z.cell? ⟨W.heap.size, 4, none⟩ = some (.int .i64 cg4) ∧ z.cell? ⟨W.heap.size, 5, none⟩ = some (.bool cg5) ∧ z.cell? ⟨W.heap.size, 6, none⟩ = some (.slice ca1 cLA ck1) ∧ z.cell? ⟨W.heap.size, 7, none⟩ = some (.slice ca2 cLR ck2) ∧ z.cell? ⟨W.heap.size, 8, none⟩ = some (.slice ca3 cLQ ck3) ∧ z.cell? ⟨W.heap.size, 9, none⟩ = some (.slice ca4 cLJ ck4) ∧ z.cell? ⟨W.heap.size, 10, none⟩ = some (.int .i64 cg10) ∧ z.cell? ⟨W.heap.size, 11, none⟩ = some (.int .i64 cg11) ∧ z.cell? ⟨W.heap.size, 12, none⟩ = some (.slice ca5 cLN ck5) ∧ z.cell? ⟨W.heap.size, 13, none⟩ = some (.int .i64 cg13) ∧ z.cell? ⟨W.heap.size, 14, none⟩ = some (.int .i64 cg14)) ∧ (z.cell? ⟨w7.heap.size, 0, none⟩ = some (.int .i64 eg0) ∧ z.cell? ⟨w7.heap.size, 1, none⟩ = some (.int .i64 eg1) ∧ z.cell? ⟨w7.heap.size, 2, none⟩ = some (.int .i64 eg2) ∧ z.cell? ⟨w7.heap.size, 3, none⟩ = some (.int .i64 eg3) ∧ z.cell? ⟨w7.heap.size, 4, none⟩ = some (.int .i64 eg4) ∧ z.cell? ⟨w7.heap.size, 5, none⟩ = some (.bool eg5) ∧ z.cell? ⟨w7.heap.size, 6, none⟩ = some (.slice ea1 eLA ek1) ∧ z.cell? ⟨w7.heap.size, 7, none⟩ = some (.slice ea2 eLR ek2) ∧ z.cell? ⟨w7.heap.size, 8, none⟩ = some (.slice ea3 eLQ ek3) ∧ z.cell? ⟨w7.heap.size, 9, none⟩ = some (.slice ea4 eLJ ek4) ∧ z.cell? ⟨w7.heap.size, 10, none⟩ = some (.int .i64 eg10) ∧ z.cell? ⟨w7.heap.size, 11, none⟩ = some (.int .i64 eg11) ∧ z.cell? ⟨w7.heap.size, 12, none⟩ = some (.slice ea5 eLN ek5) ∧ z.cell? ⟨w7.heap.size, 13, none⟩ = some (.int .i64 eg13) ∧ z.cell? ⟨w7.heap.size, 14, none⟩ = some (.int .i64 eg14))) := fun z hz => ⟨(unhide HSb z (bw_tr (unhide HZ8) hz)).1, by
        have k9 := kept_b k8 (lt_of_blk k8) hz
        exact ⟨blk_c k9 rfl, blk_c k9 rfl, blk_c k9 rfl, blk_c k9 rfl, blk_c k9 rfl, blk_c k9 rfl, blk_c k9 rfl, blk_c k9 rfl, blk_c k9 rfl, blk_c k9 rfl, blk_c k9 rfl, blk_c k9 rfl, blk_c k9 rfl, blk_c k9 rfl, blk_c k9 rfl⟩⟩
      have KSm : Hid (∀ z, Below w8.heap.size w8 z → Calls Tryd.prog 12 #[.agg #[.int .i64 eg0, .int .i64 eg1, .int .i64 eg2, .int .i64 eg3, .int .i64 eg4, .bool eg5, .slice ea1 eLA ek1, .slice ea2 eLR ek2, .slice ea3 eLQ ek3, .slice ea4 eLJ ek4, .int .i64 eg10, .int .i64 eg11, .slice ea5 eLN ek5, .int .i64 eg13, .int .i64 eg14], .agg #[.int .i64 cg0, .int .i64 cg1, .int .i64 cg2, .int .i64 cg3, .int .i64 cg4, .bool cg5, .slice ca1 cLA ck1, .slice ca2 cLR ck2, .slice ca3 cLQ ck3, .slice ca4 cLJ ck4, .int .i64 cg10, .int .i64 cg11, .slice ca5 cLN ck5, .int .i64 cg13, .int .i64 cg14]] z fun e w' => e = .returned (.bool true) ∧ Below z.heap.size z w') := fun z hz' => by
        obtain ⟨u, q1, q2⟩ := unhide hz
        rw [q2]
        exact unhide KSc z u (bw_tr (unhide B8) hz') (q1.bw (bw_tr b78 hz'))
      have KCh : Hid (∀ z, Below w8.heap.size w8 z → Calls Tryd.prog 13 #[.slice a6 N1 q6] z fun e w' => e = .returned (.int .i64 0) ∧ Below z.heap.size z w') := fun z hz' => by
        have K := (unhide KX z A1 _ (bw_tr (unhide B8) hz') ((unhide L8).bw hz') (unhide HSA)).2
        rw [if_pos (by rw [(unhide HP).2]; exact app_chk (unhide HP).1)] at K
        exact K
      obtain ⟨LG, hLG⟩ : ∃ z, z = lenL l c.gr := ⟨_, rfl⟩
      have KL1 : Hid (∀ z, Below w8.heap.size w8 z → Calls Tryd.prog 14 #[.slice a6 N1 q6, .int .i64 cg0] z fun e w' => e = .returned (.int .i64 ((LG : Int) + 1)) ∧ Below z.heap.size z w') := fun z hz' => by
        have K := (unhide KX z A1 _ (bw_tr (unhide B8) hz') ((unhide L8).bw hz') (unhide HSA)).1 cg0
        rw [(unhide HG).1, (unhide HP).2, (app_len (unhide HP).1).1, ← hLG] at K
        rw [(unhide HG).1]
        exact K
      have KL2 : Hid (∀ z, Below w8.heap.size w8 z → Calls Tryd.prog 14 #[.slice a NL cap, .int .i64 cg0] z fun e w' => e = .returned (.int .i64 (LG : Int)) ∧ Below z.heap.size z w') := fun z hz' => by
        have K := (unhide KX z l _ (bw_tr (unhide B8) hz') ((unhide HH).bw (bw_tr (unhide B8) hz')) ((unhide HSS).1.sm (by omega))).1 cg0
        rw [(unhide HG).1, ← hLG] at K
        rw [(unhide HG).1]
        exact K
      have hLGb : LG ≤ 1073741824 := by rw [hLG, ← cmsL_len]; exact (cmsL_sm ((unhide HSS).1.sm (by omega)) c.gr).n
      have hLI : (LG : Int) ≤ 1073741824 := by omega
      have hLw : IntKind.i64.wrap ((LG : Int) + 1) = (LG : Int) + 1 := by rw [IntKind.wrap_i64]; omega
      clear k8 b78 hw8 b7 KLast B6 HZb6 l6 hz KSc hLG hLGb cs0 cs1 cs2 cs3 cs4 cs5 cs6 cs7 cs8 cs9 cs10 cs11 cs12 cs13 cs14 ds0 ds1 ds2 ds3 ds4 ds5 ds6 ds7 ds8 ds9 ds10 ds11 ds12 ds13 ds14
      go_upto_region 7 with fail
      rw [← unhide HW8]
      clear HW8
      obtain ⟨SS7, HSS7⟩ : ∃ SS : World → Prop, Hid (∀ w', SS w' ↔ ((w'.cell? ⟨W.heap.size, 0, none⟩ = some (.int .i64 cg0) ∧ w'.cell? ⟨W.heap.size, 1, none⟩ = some (.int .i64 cg1) ∧ w'.cell? ⟨W.heap.size, 2, none⟩ = some (.int .i64 cg2) ∧ w'.cell? ⟨W.heap.size, 3, none⟩ = some (.int .i64 cg3) ∧ w'.cell? ⟨W.heap.size, 4, none⟩ = some (.int .i64 cg4) ∧ w'.cell? ⟨W.heap.size, 5, none⟩ = some (.bool cg5) ∧ w'.cell? ⟨W.heap.size, 6, none⟩ = some (.slice ca1 cLA ck1) ∧ w'.cell? ⟨W.heap.size, 7, none⟩ = some (.slice ca2 cLR ck2) ∧ w'.cell? ⟨W.heap.size, 8, none⟩ = some (.slice ca3 cLQ ck3) ∧ w'.cell? ⟨W.heap.size, 9, none⟩ = some (.slice ca4 cLJ ck4) ∧ w'.cell? ⟨W.heap.size, 10, none⟩ = some (.int .i64 cg10) ∧ w'.cell? ⟨W.heap.size, 11, none⟩ = some (.int .i64 cg11) ∧ w'.cell? ⟨W.heap.size, 12, none⟩ = some (.slice ca5 cLN ck5) ∧ w'.cell? ⟨W.heap.size, 13, none⟩ = some (.int .i64 cg13) ∧ w'.cell? ⟨W.heap.size, 14, none⟩ = some (.int .i64 cg14)) ∧ (w'.cell? ⟨w7.heap.size, 0, none⟩ = some (.int .i64 eg0) ∧ w'.cell? ⟨w7.heap.size, 1, none⟩ = some (.int .i64 eg1) ∧ w'.cell? ⟨w7.heap.size, 2, none⟩ = some (.int .i64 eg2) ∧ w'.cell? ⟨w7.heap.size, 3, none⟩ = some (.int .i64 eg3) ∧ w'.cell? ⟨w7.heap.size, 4, none⟩ = some (.int .i64 eg4) ∧ w'.cell? ⟨w7.heap.size, 5, none⟩ = some (.bool eg5) ∧ w'.cell? ⟨w7.heap.size, 6, none⟩ = some (.slice ea1 eLA ek1) ∧ w'.cell? ⟨w7.heap.size, 7, none⟩ = some (.slice ea2 eLR ek2) ∧ w'.cell? ⟨w7.heap.size, 8, none⟩ = some (.slice ea3 eLQ ek3) ∧ w'.cell? ⟨w7.heap.size, 9, none⟩ = some (.slice ea4 eLJ ek4) ∧ w'.cell? ⟨w7.heap.size, 10, none⟩ = some (.int .i64 eg10) ∧ w'.cell? ⟨w7.heap.size, 11, none⟩ = some (.int .i64 eg11) ∧ w'.cell? ⟨w7.heap.size, 12, none⟩ = some (.slice ea5 eLN ek5) ∧ w'.cell? ⟨w7.heap.size, 13, none⟩ = some (.int .i64 eg13) ∧ w'.cell? ⟨w7.heap.size, 14, none⟩ = some (.int .i64 eg14)))) := ⟨fun w' => (w'.cell? ⟨W.heap.size, 0, none⟩ = some (.int .i64 cg0) ∧ w'.cell? ⟨W.heap.size, 1, none⟩ = some (.int .i64 cg1) ∧ w'.cell? ⟨W.heap.size, 2, none⟩ = some (.int .i64 cg2) ∧ w'.cell? ⟨W.heap.size, 3, none⟩ = some (.int .i64 cg3) ∧ w'.cell? ⟨W.heap.size, 4, none⟩ = some (.int .i64 cg4) ∧ w'.cell? ⟨W.heap.size, 5, none⟩ = some (.bool cg5) ∧ w'.cell? ⟨W.heap.size, 6, none⟩ = some (.slice ca1 cLA ck1) ∧ w'.cell? ⟨W.heap.size, 7, none⟩ = some (.slice ca2 cLR ck2) ∧ w'.cell? ⟨W.heap.size, 8, none⟩ = some (.slice ca3 cLQ ck3) ∧ w'.cell? ⟨W.heap.size, 9, none⟩ = some (.slice ca4 cLJ ck4) ∧ w'.cell? ⟨W.heap.size, 10, none⟩ = some (.int .i64 cg10) ∧ w'.cell? ⟨W.heap.size, 11, none⟩ = some (.int .i64 cg11) ∧ w'.cell? ⟨W.heap.size, 12, none⟩ = some (.slice ca5 cLN ck5) ∧ w'.cell? ⟨W.heap.size, 13, none⟩ = some (.int .i64 cg13) ∧ w'.cell? ⟨W.heap.size, 14, none⟩ = some (.int .i64 cg14)) ∧ (w'.cell? ⟨w7.heap.size, 0, none⟩ = some (.int .i64 eg0) ∧ w'.cell? ⟨w7.heap.size, 1, none⟩ = some (.int .i64 eg1) ∧ w'.cell? ⟨w7.heap.size, 2, none⟩ = some (.int .i64 eg2) ∧ w'.cell? ⟨w7.heap.size, 3, none⟩ = some (.int .i64 eg3) ∧ w'.cell? ⟨w7.heap.size, 4, none⟩ = some (.int .i64 eg4) ∧ w'.cell? ⟨w7.heap.size, 5, none⟩ = some (.bool eg5) ∧ w'.cell? ⟨w7.heap.size, 6, none⟩ = some (.slice ea1 eLA ek1) ∧ w'.cell? ⟨w7.heap.size, 7, none⟩ = some (.slice ea2 eLR ek2) ∧ w'.cell? ⟨w7.heap.size, 8, none⟩ = some (.slice ea3 eLQ ek3) ∧ w'.cell? ⟨w7.heap.size, 9, none⟩ = some (.slice ea4 eLJ ek4) ∧ w'.cell? ⟨w7.heap.size, 10, none⟩ = some (.int .i64 eg10) ∧ w'.cell? ⟨w7.heap.size, 11, none⟩ = some (.int .i64 eg11) ∧ w'.cell? ⟨w7.heap.size, 12, none⟩ = some (.slice ea5 eLN ek5) ∧ w'.cell? ⟨w7.heap.size, 13, none⟩ = some (.int .i64 eg13) ∧ w'.cell? ⟨w7.heap.size, 14, none⟩ = some (.int .i64 eg14)), fun _ => Iff.rfl⟩
      refine wp_region_held_drew (S := SS7) (by kernel_rfl) ((unhide HSS7 _).2 (unhide HS7 w8 (Below.refl _ _))) (fun hHeld => ?_)
      refine wpAnyH_take (i := 0) (oi := { dst := some 46, op := Op.move (Operand.tmp 10), type := 4, pos := "law.go:85", after := #[], guard := none }) (v := ?v0b) rfl (by kernel_rfl) (by kernel_rfl) (by kernel_rfl) (fun _ _ _ h => h) (Or.inl ⟨by rfl, ?hy0b⟩) (by exact hHeld) ?_
      case hy0b => (intro w hSw0; have hSw := (unhide HSS7 w).1 hSw0; clear hSw0; go_simp; try (with_reducible rfl))
      try simp only [Act.put, List.setIfInBounds_toArray, List.set_cons_zero, List.set_cons_succ]
      refine wpAnyH_take (i := 1) (oi := { dst := some 47, op := Op.unOp UnOp.not 4 (Operand.tmp 46), type := 4, pos := "law.go:85", after := #[{ on := 0, ground := Ground.data }], guard := none }) (v := ?v1b) rfl (by kernel_rfl) (by kernel_rfl) (by kernel_rfl) (fun _ _ _ h => h) (Or.inl ⟨by rfl, ?hy1b⟩) (by exact hHeld) ?_
      case hy1b => (intro w hSw0; have hSw := (unhide HSS7 w).1 hSw0; clear hSw0; go_simp; try (with_reducible rfl))
      try simp only [Act.put, List.setIfInBounds_toArray, List.set_cons_zero, List.set_cons_succ]
      refine wpAnyH_take (i := 2) (oi := { dst := some 48, op := Op.move (Operand.tmp 47), type := 4, pos := "law.go:85", after := #[{ on := 1, ground := Ground.data }], guard := none }) (v := ?v2b) rfl (by kernel_rfl) (by kernel_rfl) (by kernel_rfl) (fun _ _ _ h => h) (Or.inl ⟨by rfl, ?hy2b⟩) (by exact hHeld) ?_
      case hy2b => (intro w hSw0; have hSw := (unhide HSS7 w).1 hSw0; clear hSw0; go_simp; try (with_reducible rfl))
      try simp only [Act.put, List.setIfInBounds_toArray, List.set_cons_zero, List.set_cons_succ]
      refine wpAnyH_take (i := 3) (oi := { dst := some 49, op := Op.load 31 (Operand.tmp 9), type := 31, pos := "law.go:85", after := #[{ on := 2, ground := Ground.guard }], guard := some (2, false) }) (v := ?v3b) rfl (by kernel_rfl) (by kernel_rfl) (by kernel_rfl) (fun _ _ _ h => h) (Or.inl ⟨by rfl, ?hy3b⟩) (by exact hHeld) ?_
      case hy3b => (intro w hSw0; have hSw := (unhide HSS7 w).1 hSw0; clear hSw0; go_simp; try (with_reducible rfl))
      try simp only [Act.put, List.setIfInBounds_toArray, List.set_cons_zero, List.set_cons_succ]
      refine wpAnyH_take (i := 4) (oi := { dst := some 50, op := Op.load 31 (Operand.tmp 4), type := 31, pos := "law.go:85", after := #[{ on := 2, ground := Ground.guard }], guard := some (2, false) }) (v := ?v4b) rfl (by kernel_rfl) (by kernel_rfl) (by kernel_rfl) (fun _ _ _ h => h) (Or.inl ⟨by rfl, ?hy4b⟩) (by exact hHeld) ?_
      case hy4b => (intro w hSw0; have hSw := (unhide HSS7 w).1 hSw0; clear hSw0; go_simp; try (with_reducible rfl))
      try simp only [Act.put, List.setIfInBounds_toArray, List.set_cons_zero, List.set_cons_succ]
      refine wpAnyH_ready (rs := [5]) (by kernel_rfl) (by simp) ?_
      refine AllReadyH.cons (o := { dst := some 51, op := Op.call { callee := Callee.value (Operand.func 12), args := #[Operand.tmp 49, Operand.tmp 50], argTypes := #[31, 31] }, type := 4, pos := "law.go:85", after := #[{ on := 3, ground := Ground.data }, { on := 4, ground := Ground.data }, { on := 2, ground := Ground.chain }, { on := 2, ground := Ground.guard }], guard := some (2, false) }) rfl (fun K hK => ?_) AllReadyH.nil
      go_simp
      refine (unhide KSm w8.drew (Below.refl _ _).drew).mono ?_
      rintro e y1 ⟨rfl, b1⟩
      have by1 := bw_tr (Below.refl _ _).drew b1
      have T1 := unhide HS7 y1 by1
      go_wp2_with fail
      refine hK.out _ _ ((unhide HSS7 _).2 T1) (fun _ => ?_)
      clear hK K
      try simp only [Act.put, List.setIfInBounds_toArray, List.set_cons_zero, List.set_cons_succ]
      refine wpAnyH_take (i := 6) (oi := { dst := some 52, op := Op.unOp UnOp.not 4 (Operand.tmp 51), type := 4, pos := "law.go:85", after := #[{ on := 5, ground := Ground.data }, { on := 2, ground := Ground.guard }], guard := some (2, false) }) (v := ?v6b) rfl (by kernel_rfl) (by kernel_rfl) (by kernel_rfl) (fun _ _ _ h => h) (Or.inl ⟨by rfl, ?hy6b⟩) (by exact (unhide HSS7 _).2 T1) ?_
      case hy6b => (intro w hSw0; have hSw := (unhide HSS7 w).1 hSw0; clear hSw0; go_simp; try (with_reducible rfl))
      try simp only [Act.put, List.setIfInBounds_toArray, List.set_cons_zero, List.set_cons_succ]
      refine wpAnyH_take (i := 7) (oi := { dst := some 53, op := Op.pick (Operand.tmp 48) (Operand.const (Value.bool true)) (Operand.tmp 52), type := 4, pos := "law.go:85", after := #[{ on := 2, ground := Ground.data }, { on := 6, ground := Ground.data }], guard := none }) (v := ?v7b) rfl (by kernel_rfl) (by kernel_rfl) (by kernel_rfl) (fun _ _ _ h => h) (Or.inl ⟨by rfl, ?hy7b⟩) (by exact (unhide HSS7 _).2 T1) ?_
      case hy7b => (intro w hSw0; have hSw := (unhide HSS7 w).1 hSw0; clear hSw0; go_simp; try (with_reducible rfl))
      try simp only [Act.put, List.setIfInBounds_toArray, List.set_cons_zero, List.set_cons_succ]
      refine wpAnyH_take (i := 8) (oi := { dst := some 54, op := Op.move (Operand.tmp 53), type := 4, pos := "law.go:85", after := #[{ on := 7, ground := Ground.data }, { on := 5, ground := Ground.chain }], guard := none }) (v := ?v8b) rfl (by kernel_rfl) (by kernel_rfl) (by kernel_rfl) (fun _ _ _ h => h) (Or.inl ⟨by rfl, ?hy8b⟩) (by exact (unhide HSS7 _).2 T1) ?_
      case hy8b => (intro w hSw0; have hSw := (unhide HSS7 w).1 hSw0; clear hSw0; go_simp; try (with_reducible rfl))
      try simp only [Act.put, List.setIfInBounds_toArray, List.set_cons_zero, List.set_cons_succ]
      refine wpAnyH_take (i := 9) (oi := { dst := some 55, op := Op.move (Operand.tmp 7), type := 22, pos := "law.go:85", after := #[{ on := 8, ground := Ground.guard }], guard := some (8, false) }) (v := ?v9b) rfl (by kernel_rfl) (by kernel_rfl) (by kernel_rfl) (fun _ _ _ h => h) (Or.inl ⟨by rfl, ?hy9b⟩) (by exact (unhide HSS7 _).2 T1) ?_
      case hy9b => (intro w hSw0; have hSw := (unhide HSS7 w).1 hSw0; clear hSw0; go_simp; try (with_reducible rfl))
      try simp only [Act.put, List.setIfInBounds_toArray, List.set_cons_zero, List.set_cons_succ]
      refine wpAnyH_ready (rs := [10]) (by kernel_rfl) (by simp) ?_
      refine AllReadyH.cons (o := { dst := some 56, op := Op.call { callee := Callee.value (Operand.func 13), args := #[Operand.tmp 55], argTypes := #[22] }, type := 35, pos := "law.go:85", after := #[{ on := 9, ground := Ground.data }, { on := 8, ground := Ground.chain }, { on := 8, ground := Ground.guard }], guard := some (8, false) }) rfl (fun K hK => ?_) AllReadyH.nil
      go_simp
      refine (unhide KCh y1 by1).mono ?_
      rintro e y2 ⟨rfl, b2⟩
      have by2 := bw_tr by1 b2
      have T2 := unhide HS7 y2 by2
      go_wp2_with fail
      refine hK.out _ _ ((unhide HSS7 _).2 T2) (fun _ => ?_)
      clear hK K
      try simp only [Act.put, List.setIfInBounds_toArray, List.set_cons_zero, List.set_cons_succ]
      refine wpAnyH_take (i := 11) (oi := { dst := some 57, op := Op.binOp BinOp.neq 35 (Operand.tmp 56) (Operand.const (Value.int IntKind.i64 0)) 35, type := 4, pos := "law.go:85", after := #[{ on := 10, ground := Ground.data }, { on := 8, ground := Ground.guard }], guard := some (8, false) }) (v := ?v11b) rfl (by kernel_rfl) (by kernel_rfl) (by kernel_rfl) (fun _ _ _ h => h) (Or.inl ⟨by rfl, ?hy11b⟩) (by exact (unhide HSS7 _).2 T2) ?_
      case hy11b => (intro w hSw0; have hSw := (unhide HSS7 w).1 hSw0; clear hSw0; go_simp; try (with_reducible rfl))
      try simp only [Act.put, List.setIfInBounds_toArray, List.set_cons_zero, List.set_cons_succ]
      refine wpAnyH_take (i := 12) (oi := { dst := some 58, op := Op.pick (Operand.tmp 54) (Operand.const (Value.bool true)) (Operand.tmp 57), type := 4, pos := "law.go:85", after := #[{ on := 8, ground := Ground.data }, { on := 11, ground := Ground.data }], guard := none }) (v := ?v12b) rfl (by kernel_rfl) (by kernel_rfl) (by kernel_rfl) (fun _ _ _ h => h) (Or.inl ⟨by rfl, ?hy12b⟩) (by exact (unhide HSS7 _).2 T2) ?_
      case hy12b => (intro w hSw0; have hSw := (unhide HSS7 w).1 hSw0; clear hSw0; go_simp; try (with_reducible rfl))
      try simp only [Act.put, List.setIfInBounds_toArray, List.set_cons_zero, List.set_cons_succ]
      refine wpAnyH_take (i := 13) (oi := { dst := some 59, op := Op.move (Operand.tmp 58), type := 4, pos := "law.go:85", after := #[{ on := 12, ground := Ground.data }, { on := 10, ground := Ground.chain }], guard := none }) (v := ?v13b) rfl (by kernel_rfl) (by kernel_rfl) (by kernel_rfl) (fun _ _ _ h => h) (Or.inl ⟨by rfl, ?hy13b⟩) (by exact (unhide HSS7 _).2 T2) ?_
      case hy13b => (intro w hSw0; have hSw := (unhide HSS7 w).1 hSw0; clear hSw0; go_simp; try (with_reducible rfl))
      try simp only [Act.put, List.setIfInBounds_toArray, List.set_cons_zero, List.set_cons_succ]
      refine wpAnyH_take (i := 14) (oi := { dst := some 60, op := Op.move (Operand.tmp 7), type := 22, pos := "law.go:85", after := #[{ on := 13, ground := Ground.guard }], guard := some (13, false) }) (v := ?v14b) rfl (by kernel_rfl) (by kernel_rfl) (by kernel_rfl) (fun _ _ _ h => h) (Or.inl ⟨by rfl, ?hy14b⟩) (by exact (unhide HSS7 _).2 T2) ?_
      case hy14b => (intro w hSw0; have hSw := (unhide HSS7 w).1 hSw0; clear hSw0; go_simp; try (with_reducible rfl))
      try simp only [Act.put, List.setIfInBounds_toArray, List.set_cons_zero, List.set_cons_succ]
      refine wpAnyH_take (i := 15) (oi := { dst := some 61, op := Op.fieldAddr 31 (Operand.tmp 4) 0, type := 0, pos := "law.go:85", after := #[{ on := 13, ground := Ground.guard }], guard := some (13, false) }) (v := ?v15b) rfl (by kernel_rfl) (by kernel_rfl) (by kernel_rfl) (fun _ _ _ h => h) (Or.inl ⟨by rfl, ?hy15b⟩) (by exact (unhide HSS7 _).2 T2) ?_
      case hy15b => (intro w hSw0; have hSw := (unhide HSS7 w).1 hSw0; clear hSw0; go_simp; try (with_reducible rfl))
      try simp only [Act.put, List.setIfInBounds_toArray, List.set_cons_zero, List.set_cons_succ]
      refine wpAnyH_take (i := 16) (oi := { dst := some 62, op := Op.load 3 (Operand.tmp 61), type := 3, pos := "law.go:85", after := #[{ on := 15, ground := Ground.data }, { on := 13, ground := Ground.guard }], guard := some (13, false) }) (v := ?v16b) rfl (by kernel_rfl) (by kernel_rfl) (by kernel_rfl) (fun _ _ _ h => h) (Or.inl ⟨by rfl, ?hy16b⟩) (by exact (unhide HSS7 _).2 T2) ?_
      case hy16b => (intro w hSw0; have hSw := (unhide HSS7 w).1 hSw0; clear hSw0; go_simp; try (with_reducible rfl))
      try simp only [Act.put, List.setIfInBounds_toArray, List.set_cons_zero, List.set_cons_succ]
      refine wpAnyH_take (i := 18) (oi := { dst := some 64, op := Op.move (Operand.tmp 0), type := 22, pos := "law.go:85", after := #[{ on := 13, ground := Ground.guard }], guard := some (13, false) }) (v := ?v18b) rfl (by kernel_rfl) (by kernel_rfl) (by kernel_rfl) (fun _ _ _ h => h) (Or.inl ⟨by rfl, ?hy18b⟩) (by exact (unhide HSS7 _).2 T2) ?_
      case hy18b => (intro w hSw0; have hSw := (unhide HSS7 w).1 hSw0; clear hSw0; go_simp; try (with_reducible rfl))
      try simp only [Act.put, List.setIfInBounds_toArray, List.set_cons_zero, List.set_cons_succ]
      refine wpAnyH_take (i := 19) (oi := { dst := some 65, op := Op.fieldAddr 31 (Operand.tmp 4) 0, type := 0, pos := "law.go:85", after := #[{ on := 13, ground := Ground.guard }], guard := some (13, false) }) (v := ?v19b) rfl (by kernel_rfl) (by kernel_rfl) (by kernel_rfl) (fun _ _ _ h => h) (Or.inl ⟨by rfl, ?hy19b⟩) (by exact (unhide HSS7 _).2 T2) ?_
      case hy19b => (intro w hSw0; have hSw := (unhide HSS7 w).1 hSw0; clear hSw0; go_simp; try (with_reducible rfl))
      try simp only [Act.put, List.setIfInBounds_toArray, List.set_cons_zero, List.set_cons_succ]
      refine wpAnyH_take (i := 20) (oi := { dst := some 66, op := Op.load 3 (Operand.tmp 65), type := 3, pos := "law.go:85", after := #[{ on := 19, ground := Ground.data }, { on := 13, ground := Ground.guard }], guard := some (13, false) }) (v := ?v20b) rfl (by kernel_rfl) (by kernel_rfl) (by kernel_rfl) (fun _ _ _ h => h) (Or.inl ⟨by rfl, ?hy20b⟩) (by exact (unhide HSS7 _).2 T2) ?_
      case hy20b => (intro w hSw0; have hSw := (unhide HSS7 w).1 hSw0; clear hSw0; go_simp; try (with_reducible rfl))
      try simp only [Act.put, List.setIfInBounds_toArray, List.set_cons_zero, List.set_cons_succ]
      refine wpAnyH_ready (rs := [17]) (by kernel_rfl) (by simp) ?_
      refine AllReadyH.cons (o := { dst := some 63, op := Op.call { callee := Callee.value (Operand.func 14), args := #[Operand.tmp 60, Operand.tmp 62], argTypes := #[22, 3] }, type := 3, pos := "law.go:85", after := #[{ on := 14, ground := Ground.data }, { on := 16, ground := Ground.data }, { on := 13, ground := Ground.chain }, { on := 13, ground := Ground.guard }], guard := some (13, false) }) rfl (fun K hK => ?_) AllReadyH.nil
      go_simp
      refine (unhide KL1 y2 by2).mono ?_
      rintro e y3 ⟨rfl, b3⟩
      have by3 := bw_tr by2 b3
      have T3 := unhide HS7 y3 by3
      go_wp2_with fail
      refine hK.out _ _ ((unhide HSS7 _).2 T3) (fun _ => ?_)
      clear hK K
      try simp only [Act.put, List.setIfInBounds_toArray, List.set_cons_zero, List.set_cons_succ]
      refine wpAnyH_ready (rs := [21]) (by kernel_rfl) (by simp) ?_
      refine AllReadyH.cons (o := { dst := some 67, op := Op.call { callee := Callee.value (Operand.func 14), args := #[Operand.tmp 64, Operand.tmp 66], argTypes := #[22, 3] }, type := 3, pos := "law.go:85", after := #[{ on := 18, ground := Ground.data }, { on := 20, ground := Ground.data }, { on := 17, ground := Ground.chain }, { on := 13, ground := Ground.guard }], guard := some (13, false) }) rfl (fun K hK => ?_) AllReadyH.nil
      go_simp
      refine (unhide KL2 y3 by3).mono ?_
      rintro e y4 ⟨rfl, b4⟩
      have by4 := bw_tr by3 b4
      have T4 := unhide HS7 y4 by4
      go_wp2_with fail
      refine hK.out _ _ ((unhide HSS7 _).2 T4) (fun _ => ?_)
      clear hK K
      try simp only [Act.put, List.setIfInBounds_toArray, List.set_cons_zero, List.set_cons_succ]
      refine wpAnyH_take (i := 22) (oi := { dst := some 68, op := Op.binOp BinOp.add 3 (Operand.tmp 67) (Operand.const (Value.int IntKind.i64 1)) 3, type := 3, pos := "law.go:85", after := #[{ on := 21, ground := Ground.data }, { on := 13, ground := Ground.guard }], guard := some (13, false) }) (v := ?v22b) rfl (by kernel_rfl) (by kernel_rfl) (by kernel_rfl) (fun _ _ _ h => h) (Or.inl ⟨by rfl, ?hy22b⟩) (by exact (unhide HSS7 _).2 T4) ?_
      case hy22b => (intro w hSw0; have hSw := (unhide HSS7 w).1 hSw0; clear hSw0; go_simp; try (with_reducible rfl))
      try simp only [Act.put, List.setIfInBounds_toArray, List.set_cons_zero, List.set_cons_succ]
      refine wpAnyH_take (i := 23) (oi := { dst := some 69, op := Op.binOp BinOp.neq 3 (Operand.tmp 63) (Operand.tmp 68) 3, type := 4, pos := "law.go:85", after := #[{ on := 17, ground := Ground.data }, { on := 22, ground := Ground.data }, { on := 13, ground := Ground.guard }], guard := some (13, false) }) (v := ?v23b) rfl (by kernel_rfl) (by kernel_rfl) (by kernel_rfl) (fun _ _ _ h => h) (Or.inl ⟨by rfl, ?hy23b⟩) (by exact (unhide HSS7 _).2 T4) ?_
      case hy23b => (intro w hSw0; have hSw := (unhide HSS7 w).1 hSw0; clear hSw0; go_simp; try (with_reducible rfl))
      try simp only [Act.put, List.setIfInBounds_toArray, List.set_cons_zero, List.set_cons_succ]
      refine wpAnyH_take (i := 24) (oi := { dst := some 70, op := Op.pick (Operand.tmp 59) (Operand.const (Value.bool true)) (Operand.tmp 69), type := 4, pos := "law.go:85", after := #[{ on := 13, ground := Ground.data }, { on := 23, ground := Ground.data }], guard := none }) (v := ?v24b) rfl (by kernel_rfl) (by kernel_rfl) (by kernel_rfl) (fun _ _ _ h => h) (Or.inl ⟨by rfl, ?hy24b⟩) (by exact (unhide HSS7 _).2 T4) ?_
      case hy24b => (intro w hSw0; have hSw := (unhide HSS7 w).1 hSw0; clear hSw0; go_simp; try (with_reducible rfl))
      try simp only [Act.put, List.setIfInBounds_toArray, List.set_cons_zero, List.set_cons_succ]
      refine wpAnyH_done (by kernel_rfl) ?_ _
      have B9 := hide (bw_tr (unhide B8) by4)
      have HZ9 := hide (bw_tr (unhide HZ8) by4)
      have L9 := hide ((unhide L8).bw by4)
      have O9 := hide ((unhide O8).bw by4)
      clear T1 T2 T3 T4 b1 b2 b3 b4 by1 by2 by3 by4 HS7 KSm KCh KL1 KL2 B8 HZ8 L8
      clear O8
      as_aux_lemma =>
        have HNL : Hid (NL = l.length) := by
          obtain ⟨_, _, e9⟩ := (unhide HH).slice
          cases e9; rfl
        have hNLb : NL ≤ 1073741824 := by rw [unhide HNL]; exact ((unhide HSS).1.sm (by omega)).n
        have hNLI : (NL : Int) ≤ 1073741824 := by omega
        go_wp2_with fail
        go_loopw [11] (fun iv wr => ∃ i : Nat, iv = .int .i64 (i : Int) ∧ i ≤ NL ∧ Hid (Below y4.heap.size y4 wr)) (fun iv _ => (NL - intOf iv).toNat)
        case atStart => exact ⟨0, rfl, Nat.zero_le _, Below.refl _ _⟩
        case round =>
          obtain ⟨i, rfl, hi, BR⟩ := hrel
          by_cases hlt : i < NL
          · have hiI : (i : Int) < (NL : Int) := by omega
            have h0 : (0 : Int) ≤ (i : Int) := by omega
            obtain ⟨p, hp⟩ : ∃ p, l[i]? = some p := ⟨_, List.getElem?_eq_getElem (by have := unhide HNL; omega)⟩
            obtain ⟨gb, o, ea, cv, hcv, d0, d1⟩ := (unhide HH).get hp
            subst ea
            obtain ⟨a2, c2, hcv2⟩ := hcv.slice
            obtain ⟨pg, hpg⟩ : ∃ z, z = p.1 := ⟨_, rfl⟩
            obtain ⟨M, hM⟩ : ∃ z, z = p.2.length := ⟨_, rfl⟩
            rw [← hM] at hcv2
            subst hcv2
            rw [← hpg] at d0
            have HLg : Hid (∀ z, Below W.heap.size W z → z.cell? ⟨gb, o + i * 2, none⟩ = some (.int .i64 pg) ∧ z.cell? ⟨gb, o + i * 2 + 1, none⟩ = some (.slice a2 M c2)) := fun z hz => ⟨by rw [hz.cell (lt_of_cell d0)]; exact d0, by rw [hz.cell (lt_of_cell d1)]; exact d1⟩
            have HPm := hide (And.intro (List.mem_of_getElem? hp) (And.intro hcv (And.intro hpg hM)))
            have hMb : M ≤ 1073741824 := by rw [hM]; exact (((unhide HSS).1.sm (by omega)).g p (List.mem_of_getElem? hp)).n
            have hMI : (M : Int) ≤ 1073741824 := by omega
            clear hp hcv d0 d1 hpg hM hMb
            go_wp2_with fail
            go_loopw [12] (fun jv wq => ∃ j : Nat, jv = .int .i64 (j : Int) ∧ j ≤ M ∧ Hid (Below y4.heap.size y4 wq)) (fun jv _ => (M - intOf jv).toNat)
            case atStart => exact ⟨0, rfl, Nat.zero_le _, BR⟩
            case round =>
              rename World => wq
              obtain ⟨j, rfl, hj, BQ⟩ := hrel
              have BWq := hide (bw_tr (unhide B9) (unhide BQ))
              obtain ⟨f0, f1⟩ := unhide HLg wq (unhide BWq)
              by_cases hjm : j < M
              · have hjI : (j : Int) < (M : Int) := by omega
                have j0 : (0 : Int) ≤ (j : Int) := by omega
                obtain ⟨hpm, hcv, hpg, hM⟩ := unhide HPm
                obtain ⟨dd, hdd⟩ : ∃ dd, p.2[j]? = some dd := ⟨_, List.getElem?_eq_getElem (by omega)⟩
                obtain ⟨pb, po, ea, px, hpx, hpc⟩ := hcv.get hdd
                have ea2 : a2 = some ⟨pb, po, none⟩ := ea
                subst ea2
                have hgt : getL A1 pg (j : Int) = some dd := by rw [(unhide HP).2, hpg]; exact app_old (unhide HP).1 hpm hdd
                have KG1 := hide (unhide KGt wq _ A1 pg j dd (unhide BWq) ((unhide L9).bw (unhide BQ)) (unhide HSA) hgt)
                obtain ⟨pa1, pk1, pe1⟩ := hpx.adds.slice
                obtain ⟨pa2, pk2, pe2⟩ := nums_slice hpx.rem
                obtain ⟨pa3, pk3, pe3⟩ := hpx.seals.slice
                obtain ⟨pa4, pk4, pe4⟩ := hpx.joins.slice
                obtain ⟨pa5, pk5, pe5⟩ := hpx.next.slice
                have HPX := hide hpx
                have HPC : Hid (∀ z, Below W.heap.size W z → ∀ k u, (cmC dd px)[k]? = some u → z.cell? ⟨pb, po + j * 15 + k, none⟩ = some u) := fun z hz k u hu => by have := hpc k u hu; rw [hz.cell (lt_of_cell this)]; exact this
                obtain ⟨pg0, phg0⟩ : ∃ z, z = dd.gr := ⟨_, rfl⟩
                obtain ⟨pg1, phg1⟩ : ∃ z, z = dd.ep := ⟨_, rfl⟩
                obtain ⟨pg2, phg2⟩ : ∃ z, z = dd.dev := ⟨_, rfl⟩
                obtain ⟨pg3, phg3⟩ : ∃ z, z = dd.mem := ⟨_, rfl⟩
                obtain ⟨pg4, phg4⟩ : ∃ z, z = dd.ke := ⟨_, rfl⟩
                obtain ⟨pg5, phg5⟩ : ∃ z, z = dd.ext := ⟨_, rfl⟩
                obtain ⟨pg10, phg10⟩ : ∃ z, z = dd.own := ⟨_, rfl⟩
                obtain ⟨pg11, phg11⟩ : ∃ z, z = dd.ent := ⟨_, rfl⟩
                obtain ⟨pg13, phg13⟩ : ∃ z, z = dd.face := ⟨_, rfl⟩
                obtain ⟨pg14, phg14⟩ : ∃ z, z = dd.card := ⟨_, rfl⟩
                obtain ⟨pLA, phLA⟩ : ∃ z, z = dd.adds.length := ⟨_, rfl⟩
                obtain ⟨pLR, phLR⟩ : ∃ z, z = dd.rem.length := ⟨_, rfl⟩
                obtain ⟨pLQ, phLQ⟩ : ∃ z, z = dd.seals.length := ⟨_, rfl⟩
                obtain ⟨pLJ, phLJ⟩ : ∃ z, z = dd.joins.length := ⟨_, rfl⟩
                obtain ⟨pLN, phLN⟩ : ∃ z, z = dd.next.length := ⟨_, rfl⟩
                have pV : cmV dd px = .agg #[.int .i64 pg0, .int .i64 pg1, .int .i64 pg2, .int .i64 pg3, .int .i64 pg4, .bool pg5, .slice pa1 pLA pk1, .slice pa2 pLR pk2, .slice pa3 pLQ pk3, .slice pa4 pLJ pk4, .int .i64 pg10, .int .i64 pg11, .slice pa5 pLN pk5, .int .i64 pg13, .int .i64 pg14] := by unfold cmV cmC; rw [pe1, pe2, pe3, pe4, pe5, phg0, phg1, phg2, phg3, phg4, phg5, phg10, phg11, phg13, phg14, phLA, phLR, phLQ, phLJ, phLN]
                have HPV := hide pV
                have HPC2 : Hid (∀ z, Below W.heap.size W z → (z.cell? ⟨pb, po + j * 15, none⟩ = some (.int .i64 pg0) ∧ z.cell? ⟨pb, po + j * 15 + 1, none⟩ = some (.int .i64 pg1) ∧ z.cell? ⟨pb, po + j * 15 + 2, none⟩ = some (.int .i64 pg2) ∧ z.cell? ⟨pb, po + j * 15 + 3, none⟩ = some (.int .i64 pg3) ∧ z.cell? ⟨pb, po + j * 15 + 4, none⟩ = some (.int .i64 pg4) ∧ z.cell? ⟨pb, po + j * 15 + 5, none⟩ = some (.bool pg5) ∧ z.cell? ⟨pb, po + j * 15 + 6, none⟩ = some (.slice pa1 pLA pk1) ∧ z.cell? ⟨pb, po + j * 15 + 7, none⟩ = some (.slice pa2 pLR pk2) ∧ z.cell? ⟨pb, po + j * 15 + 8, none⟩ = some (.slice pa3 pLQ pk3) ∧ z.cell? ⟨pb, po + j * 15 + 9, none⟩ = some (.slice pa4 pLJ pk4) ∧ z.cell? ⟨pb, po + j * 15 + 10, none⟩ = some (.int .i64 pg10) ∧ z.cell? ⟨pb, po + j * 15 + 11, none⟩ = some (.int .i64 pg11) ∧ z.cell? ⟨pb, po + j * 15 + 12, none⟩ = some (.slice pa5 pLN pk5) ∧ z.cell? ⟨pb, po + j * 15 + 13, none⟩ = some (.int .i64 pg13) ∧ z.cell? ⟨pb, po + j * 15 + 14, none⟩ = some (.int .i64 pg14))) := fun z hz => by
                  have q := unhide HPC z hz
                  have e : cmC dd px = [.int .i64 pg0, .int .i64 pg1, .int .i64 pg2, .int .i64 pg3, .int .i64 pg4, .bool pg5, .slice pa1 pLA pk1, .slice pa2 pLR pk2, .slice pa3 pLQ pk3, .slice pa4 pLJ pk4, .int .i64 pg10, .int .i64 pg11, .slice pa5 pLN pk5, .int .i64 pg13, .int .i64 pg14] := by
                    have := pV
                    unfold cmV at this
                    injection this with h2
                    have h3 := congrArg Array.toList h2
                    simpa using h3
                  rw [e] at q
                  exact ⟨q 0 _ rfl, q 1 _ rfl, q 2 _ rfl, q 3 _ rfl, q 4 _ rfl, q 5 _ rfl, q 6 _ rfl, q 7 _ rfl, q 8 _ rfl, q 9 _ rfl, q 10 _ rfl, q 11 _ rfl, q 12 _ rfl, q 13 _ rfl, q 14 _ rfl⟩
                clear hpm hcv hpg hM hdd hpx hpc ea hgt HPC pV pe1 pe2 pe3 pe4 pe5 phg0 phg1 phg2 phg3 phg4 phg5 phLA phLR phLQ phLJ phg10 phg11 phLN phg13 phg14
                go_wp2_with fail
                refine (unhide KG1).mono ?_
                rintro r w11 ⟨fg0, fg1, fg2, fg3, fg4, fg5, fa1, fLA, fk1, fa2, fLR, fk2, fa3, fLQ, fk3, fa4, fLJ, fk4, fg10, fg11, fa5, fLN, fk5, fg13, fg14, rfl, hz, b11⟩
                obtain ⟨w12, hw12⟩ : ∃ z, z = w11.alloc (.cells #[.int .i64 fg0, .int .i64 fg1, .int .i64 fg2, .int .i64 fg3, .int .i64 fg4, .bool fg5, .slice fa1 fLA fk1, .slice fa2 fLR fk2, .slice fa3 fLQ fk3, .slice fa4 fLJ fk4, .int .i64 fg10, .int .i64 fg11, .slice fa5 fLN fk5, .int .i64 fg13, .int .i64 fg14] 31) := ⟨_, rfl⟩
                have k12 : w12.heap[w11.heap.size]? = some (.cells #[.int .i64 fg0, .int .i64 fg1, .int .i64 fg2, .int .i64 fg3, .int .i64 fg4, .bool fg5, .slice fa1 fLA fk1, .slice fa2 fLR fk2, .slice fa3 fLQ fk3, .slice fa4 fLJ fk4, .int .i64 fg10, .int .i64 fg11, .slice fa5 fLN fk5, .int .i64 fg13, .int .i64 fg14] 31 (0, 0)) := by rw [hw12]; exact heap_alloc_new _ _
                have b12 : Below w11.heap.size w11 w12 := by rw [hw12]; exact bwA w11 _
                have HW12 := hide hw12
                have BW12 := hide (bw_tr (bw_tr (unhide BWq) b11) b12)
                have BQ12 := hide (bw_tr (bw_tr (unhide BQ) b11) b12)
                have HS16 : Hid (∀ z, Below w12.heap.size w12 z → (z.cell? ⟨w11.heap.size, 0, none⟩ = some (.int .i64 fg0) ∧ z.cell? ⟨w11.heap.size, 1, none⟩ = some (.int .i64 fg1) ∧ z.cell? ⟨w11.heap.size, 2, none⟩ = some (.int .i64 fg2) ∧ z.cell? ⟨w11.heap.size, 3, none⟩ = some (.int .i64 fg3) ∧ z.cell? ⟨w11.heap.size, 4, none⟩ = some (.int .i64 fg4) ∧ z.cell? ⟨w11.heap.size, 5, none⟩ = some (.bool fg5) ∧ z.cell? ⟨w11.heap.size, 6, none⟩ = some (.slice fa1 fLA fk1) ∧ z.cell? ⟨w11.heap.size, 7, none⟩ = some (.slice fa2 fLR fk2) ∧ z.cell? ⟨w11.heap.size, 8, none⟩ = some (.slice fa3 fLQ fk3) ∧ z.cell? ⟨w11.heap.size, 9, none⟩ = some (.slice fa4 fLJ fk4) ∧ z.cell? ⟨w11.heap.size, 10, none⟩ = some (.int .i64 fg10) ∧ z.cell? ⟨w11.heap.size, 11, none⟩ = some (.int .i64 fg11) ∧ z.cell? ⟨w11.heap.size, 12, none⟩ = some (.slice fa5 fLN fk5) ∧ z.cell? ⟨w11.heap.size, 13, none⟩ = some (.int .i64 fg13) ∧ z.cell? ⟨w11.heap.size, 14, none⟩ = some (.int .i64 fg14)) ∧ z.cell? ⟨gb, o + i * 2 + 1, none⟩ = some (.slice (some ⟨pb, po, none⟩) M c2) ∧ (z.cell? ⟨pb, po + j * 15, none⟩ = some (.int .i64 pg0) ∧ z.cell? ⟨pb, po + j * 15 + 1, none⟩ = some (.int .i64 pg1) ∧ z.cell? ⟨pb, po + j * 15 + 2, none⟩ = some (.int .i64 pg2) ∧ z.cell? ⟨pb, po + j * 15 + 3, none⟩ = some (.int .i64 pg3) ∧ z.cell? ⟨pb, po + j * 15 + 4, none⟩ = some (.int .i64 pg4) ∧ z.cell? ⟨pb, po + j * 15 + 5, none⟩ = some (.bool pg5) ∧ z.cell? ⟨pb, po + j * 15 + 6, none⟩ = some (.slice pa1 pLA pk1) ∧ z.cell? ⟨pb, po + j * 15 + 7, none⟩ = some (.slice pa2 pLR pk2) ∧ z.cell? ⟨pb, po + j * 15 + 8, none⟩ = some (.slice pa3 pLQ pk3) ∧ z.cell? ⟨pb, po + j * 15 + 9, none⟩ = some (.slice pa4 pLJ pk4) ∧ z.cell? ⟨pb, po + j * 15 + 10, none⟩ = some (.int .i64 pg10) ∧ z.cell? ⟨pb, po + j * 15 + 11, none⟩ = some (.int .i64 pg11) ∧ z.cell? ⟨pb, po + j * 15 + 12, none⟩ = some (.slice pa5 pLN pk5) ∧ z.cell? ⟨pb, po + j * 15 + 13, none⟩ = some (.int .i64 pg13) ∧ z.cell? ⟨pb, po + j * 15 + 14, none⟩ = some (.int .i64 pg14))) := fun z hz' => ⟨by
                  have k9 := kept_b k12 (lt_of_blk k12) hz'
                  exact ⟨blk_c k9 rfl, blk_c k9 rfl, blk_c k9 rfl, blk_c k9 rfl, blk_c k9 rfl, blk_c k9 rfl, blk_c k9 rfl, blk_c k9 rfl, blk_c k9 rfl, blk_c k9 rfl, blk_c k9 rfl, blk_c k9 rfl, blk_c k9 rfl, blk_c k9 rfl, blk_c k9 rfl⟩, (unhide HLg z (bw_tr (unhide BW12) hz')).2, unhide HPC2 z (bw_tr (unhide BW12) hz')⟩
                have KS16 : Hid (∀ z, Below w12.heap.size w12 z → Calls Tryd.prog 12 #[.agg #[.int .i64 fg0, .int .i64 fg1, .int .i64 fg2, .int .i64 fg3, .int .i64 fg4, .bool fg5, .slice fa1 fLA fk1, .slice fa2 fLR fk2, .slice fa3 fLQ fk3, .slice fa4 fLJ fk4, .int .i64 fg10, .int .i64 fg11, .slice fa5 fLN fk5, .int .i64 fg13, .int .i64 fg14], .agg #[.int .i64 pg0, .int .i64 pg1, .int .i64 pg2, .int .i64 pg3, .int .i64 pg4, .bool pg5, .slice pa1 pLA pk1, .slice pa2 pLR pk2, .slice pa3 pLQ pk3, .slice pa4 pLJ pk4, .int .i64 pg10, .int .i64 pg11, .slice pa5 pLN pk5, .int .i64 pg13, .int .i64 pg14]] z fun e w' => e = .returned (.bool true) ∧ Below z.heap.size z w') := fun z hz' => by
                  obtain ⟨u, q1, q2⟩ := unhide hz
                  rw [q2, ← unhide HPV]
                  exact samecm_any (q1.bw (bw_tr b12 hz')) ((unhide HPX).bw (bw_tr (unhide BW12) hz'))
                clear k12 b12 hw12 b11 KG1 hz f0 f1 BWq BQ
                as_aux_lemma =>
                  go_upto_region 16 with fail
                  rw [← unhide HW12]
                  clear HW12
                  obtain ⟨SS16, HSS16⟩ : ∃ SS : World → Prop, Hid (∀ w', SS w' ↔ ((w'.cell? ⟨w11.heap.size, 0, none⟩ = some (.int .i64 fg0) ∧ w'.cell? ⟨w11.heap.size, 1, none⟩ = some (.int .i64 fg1) ∧ w'.cell? ⟨w11.heap.size, 2, none⟩ = some (.int .i64 fg2) ∧ w'.cell? ⟨w11.heap.size, 3, none⟩ = some (.int .i64 fg3) ∧ w'.cell? ⟨w11.heap.size, 4, none⟩ = some (.int .i64 fg4) ∧ w'.cell? ⟨w11.heap.size, 5, none⟩ = some (.bool fg5) ∧ w'.cell? ⟨w11.heap.size, 6, none⟩ = some (.slice fa1 fLA fk1) ∧ w'.cell? ⟨w11.heap.size, 7, none⟩ = some (.slice fa2 fLR fk2) ∧ w'.cell? ⟨w11.heap.size, 8, none⟩ = some (.slice fa3 fLQ fk3) ∧ w'.cell? ⟨w11.heap.size, 9, none⟩ = some (.slice fa4 fLJ fk4) ∧ w'.cell? ⟨w11.heap.size, 10, none⟩ = some (.int .i64 fg10) ∧ w'.cell? ⟨w11.heap.size, 11, none⟩ = some (.int .i64 fg11) ∧ w'.cell? ⟨w11.heap.size, 12, none⟩ = some (.slice fa5 fLN fk5) ∧ w'.cell? ⟨w11.heap.size, 13, none⟩ = some (.int .i64 fg13) ∧ w'.cell? ⟨w11.heap.size, 14, none⟩ = some (.int .i64 fg14)) ∧ w'.cell? ⟨gb, o + i * 2 + 1, none⟩ = some (.slice (some ⟨pb, po, none⟩) M c2) ∧ (w'.cell? ⟨pb, po + j * 15, none⟩ = some (.int .i64 pg0) ∧ w'.cell? ⟨pb, po + j * 15 + 1, none⟩ = some (.int .i64 pg1) ∧ w'.cell? ⟨pb, po + j * 15 + 2, none⟩ = some (.int .i64 pg2) ∧ w'.cell? ⟨pb, po + j * 15 + 3, none⟩ = some (.int .i64 pg3) ∧ w'.cell? ⟨pb, po + j * 15 + 4, none⟩ = some (.int .i64 pg4) ∧ w'.cell? ⟨pb, po + j * 15 + 5, none⟩ = some (.bool pg5) ∧ w'.cell? ⟨pb, po + j * 15 + 6, none⟩ = some (.slice pa1 pLA pk1) ∧ w'.cell? ⟨pb, po + j * 15 + 7, none⟩ = some (.slice pa2 pLR pk2) ∧ w'.cell? ⟨pb, po + j * 15 + 8, none⟩ = some (.slice pa3 pLQ pk3) ∧ w'.cell? ⟨pb, po + j * 15 + 9, none⟩ = some (.slice pa4 pLJ pk4) ∧ w'.cell? ⟨pb, po + j * 15 + 10, none⟩ = some (.int .i64 pg10) ∧ w'.cell? ⟨pb, po + j * 15 + 11, none⟩ = some (.int .i64 pg11) ∧ w'.cell? ⟨pb, po + j * 15 + 12, none⟩ = some (.slice pa5 pLN pk5) ∧ w'.cell? ⟨pb, po + j * 15 + 13, none⟩ = some (.int .i64 pg13) ∧ w'.cell? ⟨pb, po + j * 15 + 14, none⟩ = some (.int .i64 pg14)))) := ⟨fun w' => (w'.cell? ⟨w11.heap.size, 0, none⟩ = some (.int .i64 fg0) ∧ w'.cell? ⟨w11.heap.size, 1, none⟩ = some (.int .i64 fg1) ∧ w'.cell? ⟨w11.heap.size, 2, none⟩ = some (.int .i64 fg2) ∧ w'.cell? ⟨w11.heap.size, 3, none⟩ = some (.int .i64 fg3) ∧ w'.cell? ⟨w11.heap.size, 4, none⟩ = some (.int .i64 fg4) ∧ w'.cell? ⟨w11.heap.size, 5, none⟩ = some (.bool fg5) ∧ w'.cell? ⟨w11.heap.size, 6, none⟩ = some (.slice fa1 fLA fk1) ∧ w'.cell? ⟨w11.heap.size, 7, none⟩ = some (.slice fa2 fLR fk2) ∧ w'.cell? ⟨w11.heap.size, 8, none⟩ = some (.slice fa3 fLQ fk3) ∧ w'.cell? ⟨w11.heap.size, 9, none⟩ = some (.slice fa4 fLJ fk4) ∧ w'.cell? ⟨w11.heap.size, 10, none⟩ = some (.int .i64 fg10) ∧ w'.cell? ⟨w11.heap.size, 11, none⟩ = some (.int .i64 fg11) ∧ w'.cell? ⟨w11.heap.size, 12, none⟩ = some (.slice fa5 fLN fk5) ∧ w'.cell? ⟨w11.heap.size, 13, none⟩ = some (.int .i64 fg13) ∧ w'.cell? ⟨w11.heap.size, 14, none⟩ = some (.int .i64 fg14)) ∧ w'.cell? ⟨gb, o + i * 2 + 1, none⟩ = some (.slice (some ⟨pb, po, none⟩) M c2) ∧ (w'.cell? ⟨pb, po + j * 15, none⟩ = some (.int .i64 pg0) ∧ w'.cell? ⟨pb, po + j * 15 + 1, none⟩ = some (.int .i64 pg1) ∧ w'.cell? ⟨pb, po + j * 15 + 2, none⟩ = some (.int .i64 pg2) ∧ w'.cell? ⟨pb, po + j * 15 + 3, none⟩ = some (.int .i64 pg3) ∧ w'.cell? ⟨pb, po + j * 15 + 4, none⟩ = some (.int .i64 pg4) ∧ w'.cell? ⟨pb, po + j * 15 + 5, none⟩ = some (.bool pg5) ∧ w'.cell? ⟨pb, po + j * 15 + 6, none⟩ = some (.slice pa1 pLA pk1) ∧ w'.cell? ⟨pb, po + j * 15 + 7, none⟩ = some (.slice pa2 pLR pk2) ∧ w'.cell? ⟨pb, po + j * 15 + 8, none⟩ = some (.slice pa3 pLQ pk3) ∧ w'.cell? ⟨pb, po + j * 15 + 9, none⟩ = some (.slice pa4 pLJ pk4) ∧ w'.cell? ⟨pb, po + j * 15 + 10, none⟩ = some (.int .i64 pg10) ∧ w'.cell? ⟨pb, po + j * 15 + 11, none⟩ = some (.int .i64 pg11) ∧ w'.cell? ⟨pb, po + j * 15 + 12, none⟩ = some (.slice pa5 pLN pk5) ∧ w'.cell? ⟨pb, po + j * 15 + 13, none⟩ = some (.int .i64 pg13) ∧ w'.cell? ⟨pb, po + j * 15 + 14, none⟩ = some (.int .i64 pg14)), fun _ => Iff.rfl⟩
                  refine wp_region_held_drew (S := SS16) (by kernel_rfl) ((unhide HSS16 _).2 (unhide HS16 w12 (Below.refl _ _))) (fun hHeld => ?_)
                  refine wpAnyH_take (i := 0) (oi := { dst := some 98, op := Op.move (Operand.tmp 14), type := 4, pos := "law.go:91", after := #[], guard := none }) (v := ?v0g) rfl (by kernel_rfl) (by kernel_rfl) (by kernel_rfl) (fun _ _ _ h => h) (Or.inl ⟨by rfl, ?hy0g⟩) (by exact hHeld) ?_
                  case hy0g => (intro w hSw0; have hSw := (unhide HSS16 w).1 hSw0; clear hSw0; go_simp; try (with_reducible rfl))
                  try simp only [Act.put, List.setIfInBounds_toArray, List.set_cons_zero, List.set_cons_succ]
                  refine wpAnyH_take (i := 1) (oi := { dst := some 99, op := Op.unOp UnOp.not 4 (Operand.tmp 98), type := 4, pos := "law.go:91", after := #[{ on := 0, ground := Ground.data }], guard := none }) (v := ?v1g) rfl (by kernel_rfl) (by kernel_rfl) (by kernel_rfl) (fun _ _ _ h => h) (Or.inl ⟨by rfl, ?hy1g⟩) (by exact hHeld) ?_
                  case hy1g => (intro w hSw0; have hSw := (unhide HSS16 w).1 hSw0; clear hSw0; go_simp; try (with_reducible rfl))
                  try simp only [Act.put, List.setIfInBounds_toArray, List.set_cons_zero, List.set_cons_succ]
                  refine wpAnyH_take (i := 2) (oi := { dst := some 100, op := Op.move (Operand.tmp 99), type := 4, pos := "law.go:91", after := #[{ on := 1, ground := Ground.data }], guard := none }) (v := ?v2g) rfl (by kernel_rfl) (by kernel_rfl) (by kernel_rfl) (fun _ _ _ h => h) (Or.inl ⟨by rfl, ?hy2g⟩) (by exact hHeld) ?_
                  case hy2g => (intro w hSw0; have hSw := (unhide HSS16 w).1 hSw0; clear hSw0; go_simp; try (with_reducible rfl))
                  try simp only [Act.put, List.setIfInBounds_toArray, List.set_cons_zero, List.set_cons_succ]
                  refine wpAnyH_take (i := 3) (oi := { dst := some 101, op := Op.load 31 (Operand.tmp 13), type := 31, pos := "law.go:91", after := #[{ on := 2, ground := Ground.guard }], guard := some (2, false) }) (v := ?v3g) rfl (by kernel_rfl) (by kernel_rfl) (by kernel_rfl) (fun _ _ _ h => h) (Or.inl ⟨by rfl, ?hy3g⟩) (by exact hHeld) ?_
                  case hy3g => (intro w hSw0; have hSw := (unhide HSS16 w).1 hSw0; clear hSw0; go_simp; try (with_reducible rfl))
                  try simp only [Act.put, List.setIfInBounds_toArray, List.set_cons_zero, List.set_cons_succ]
                  refine wpAnyH_take (i := 4) (oi := { dst := some 102, op := Op.move (Operand.tmp 0), type := 22, pos := "law.go:91", after := #[{ on := 2, ground := Ground.guard }], guard := some (2, false) }) (v := ?v4g) rfl (by kernel_rfl) (by kernel_rfl) (by kernel_rfl) (fun _ _ _ h => h) (Or.inl ⟨by rfl, ?hy4g⟩) (by exact hHeld) ?_
                  case hy4g => (intro w hSw0; have hSw := (unhide HSS16 w).1 hSw0; clear hSw0; go_simp; try (with_reducible rfl))
                  try simp only [Act.put, List.setIfInBounds_toArray, List.set_cons_zero, List.set_cons_succ]
                  refine wpAnyH_take (i := 5) (oi := { dst := some 103, op := Op.move (Operand.tmp 11), type := 3, pos := "law.go:91", after := #[{ on := 2, ground := Ground.guard }], guard := some (2, false) }) (v := ?v5g) rfl (by kernel_rfl) (by kernel_rfl) (by kernel_rfl) (fun _ _ _ h => h) (Or.inl ⟨by rfl, ?hy5g⟩) (by exact hHeld) ?_
                  case hy5g => (intro w hSw0; have hSw := (unhide HSS16 w).1 hSw0; clear hSw0; go_simp; try (with_reducible rfl))
                  try simp only [Act.put, List.setIfInBounds_toArray, List.set_cons_zero, List.set_cons_succ]
                  refine wpAnyH_take (i := 6) (oi := { dst := some 104, op := Op.indexAddr 22 (Operand.tmp 102) (Operand.tmp 103), type := 0, pos := "law.go:91", after := #[{ on := 4, ground := Ground.data }, { on := 5, ground := Ground.data }, { on := 2, ground := Ground.guard }], guard := some (2, false) }) (v := ?v6g) rfl (by kernel_rfl) (by kernel_rfl) (by kernel_rfl) (fun _ _ _ h => h) (Or.inl ⟨by rfl, ?hy6g⟩) (by exact hHeld) ?_
                  case hy6g => (intro w hSw0; have hSw := (unhide HSS16 w).1 hSw0; clear hSw0; go_simp; try (with_reducible rfl))
                  try simp only [Act.put, List.setIfInBounds_toArray, List.set_cons_zero, List.set_cons_succ]
                  refine wpAnyH_take (i := 7) (oi := { dst := some 105, op := Op.fieldAddr 46 (Operand.tmp 104) 1, type := 0, pos := "law.go:91", after := #[{ on := 6, ground := Ground.data }, { on := 2, ground := Ground.guard }], guard := some (2, false) }) (v := ?v7g) rfl (by kernel_rfl) (by kernel_rfl) (by kernel_rfl) (fun _ _ _ h => h) (Or.inl ⟨by rfl, ?hy7g⟩) (by exact hHeld) ?_
                  case hy7g => (intro w hSw0; have hSw := (unhide HSS16 w).1 hSw0; clear hSw0; go_simp; try (with_reducible rfl))
                  try simp only [Act.put, List.setIfInBounds_toArray, List.set_cons_zero, List.set_cons_succ]
                  refine wpAnyH_take (i := 8) (oi := { dst := some 106, op := Op.load 44 (Operand.tmp 105), type := 44, pos := "law.go:91", after := #[{ on := 7, ground := Ground.data }, { on := 2, ground := Ground.guard }], guard := some (2, false) }) (v := ?v8g) rfl (by kernel_rfl) (by kernel_rfl) (by kernel_rfl) (fun _ _ _ h => h) (Or.inl ⟨by rfl, ?hy8g⟩) (by exact hHeld) ?_
                  case hy8g => (intro w hSw0; have hSw := (unhide HSS16 w).1 hSw0; clear hSw0; go_simp; try (with_reducible rfl))
                  try simp only [Act.put, List.setIfInBounds_toArray, List.set_cons_zero, List.set_cons_succ]
                  refine wpAnyH_take (i := 9) (oi := { dst := some 107, op := Op.move (Operand.tmp 12), type := 3, pos := "law.go:91", after := #[{ on := 2, ground := Ground.guard }], guard := some (2, false) }) (v := ?v9g) rfl (by kernel_rfl) (by kernel_rfl) (by kernel_rfl) (fun _ _ _ h => h) (Or.inl ⟨by rfl, ?hy9g⟩) (by exact hHeld) ?_
                  case hy9g => (intro w hSw0; have hSw := (unhide HSS16 w).1 hSw0; clear hSw0; go_simp; try (with_reducible rfl))
                  try simp only [Act.put, List.setIfInBounds_toArray, List.set_cons_zero, List.set_cons_succ]
                  refine wpAnyH_take (i := 10) (oi := { dst := some 108, op := Op.indexAddr 44 (Operand.tmp 106) (Operand.tmp 107), type := 0, pos := "law.go:91", after := #[{ on := 8, ground := Ground.data }, { on := 9, ground := Ground.data }, { on := 2, ground := Ground.guard }], guard := some (2, false) }) (v := ?v10g) rfl (by kernel_rfl) (by kernel_rfl) (by kernel_rfl) (fun _ _ _ h => h) (Or.inl ⟨by rfl, ?hy10g⟩) (by exact hHeld) ?_
                  case hy10g => (intro w hSw0; have hSw := (unhide HSS16 w).1 hSw0; clear hSw0; go_simp; try (with_reducible rfl))
                  try simp only [Act.put, List.setIfInBounds_toArray, List.set_cons_zero, List.set_cons_succ]
                  refine wpAnyH_take (i := 11) (oi := { dst := some 109, op := Op.load 31 (Operand.tmp 108), type := 31, pos := "law.go:91", after := #[{ on := 10, ground := Ground.data }, { on := 2, ground := Ground.guard }], guard := some (2, false) }) (v := ?v11g) rfl (by kernel_rfl) (by kernel_rfl) (by kernel_rfl) (fun _ _ _ h => h) (Or.inl ⟨by rfl, ?hy11g⟩) (by exact hHeld) ?_
                  case hy11g => (intro w hSw0; have hSw := (unhide HSS16 w).1 hSw0; clear hSw0; go_simp; try (with_reducible rfl))
                  try simp only [Act.put, List.setIfInBounds_toArray, List.set_cons_zero, List.set_cons_succ]
                  refine wpAnyH_ready (rs := [12]) (by kernel_rfl) (by simp) ?_
                  refine AllReadyH.cons (o := { dst := some 110, op := Op.call { callee := Callee.value (Operand.func 12), args := #[Operand.tmp 101, Operand.tmp 109], argTypes := #[31, 31] }, type := 4, pos := "law.go:91", after := #[{ on := 3, ground := Ground.data }, { on := 11, ground := Ground.data }, { on := 2, ground := Ground.chain }, { on := 2, ground := Ground.guard }], guard := some (2, false) }) rfl (fun K hK => ?_) AllReadyH.nil
                  go_simp
                  refine (unhide KS16 w12.drew (Below.refl _ _).drew).mono ?_
                  rintro e x1 ⟨rfl, b1⟩
                  have bx1 := bw_tr (Below.refl _ _).drew b1
                  have T1 := unhide HS16 x1 bx1
                  go_wp2_with fail
                  refine hK.out _ _ ((unhide HSS16 _).2 T1) (fun _ => ?_)
                  clear hK K
                  try simp only [Act.put, List.setIfInBounds_toArray, List.set_cons_zero, List.set_cons_succ]
                  refine wpAnyH_take (i := 13) (oi := { dst := some 111, op := Op.unOp UnOp.not 4 (Operand.tmp 110), type := 4, pos := "law.go:91", after := #[{ on := 12, ground := Ground.data }, { on := 2, ground := Ground.guard }], guard := some (2, false) }) (v := ?v13g) rfl (by kernel_rfl) (by kernel_rfl) (by kernel_rfl) (fun _ _ _ h => h) (Or.inl ⟨by rfl, ?hy13g⟩) (by exact (unhide HSS16 _).2 T1) ?_
                  case hy13g => (intro w hSw0; have hSw := (unhide HSS16 w).1 hSw0; clear hSw0; go_simp; try (with_reducible rfl))
                  try simp only [Act.put, List.setIfInBounds_toArray, List.set_cons_zero, List.set_cons_succ]
                  refine wpAnyH_take (i := 14) (oi := { dst := some 112, op := Op.pick (Operand.tmp 100) (Operand.const (Value.bool true)) (Operand.tmp 111), type := 4, pos := "law.go:91", after := #[{ on := 2, ground := Ground.data }, { on := 13, ground := Ground.data }], guard := none }) (v := ?v14g) rfl (by kernel_rfl) (by kernel_rfl) (by kernel_rfl) (fun _ _ _ h => h) (Or.inl ⟨by rfl, ?hy14g⟩) (by exact (unhide HSS16 _).2 T1) ?_
                  case hy14g => (intro w hSw0; have hSw := (unhide HSS16 w).1 hSw0; clear hSw0; go_simp; try (with_reducible rfl))
                  try simp only [Act.put, List.setIfInBounds_toArray, List.set_cons_zero, List.set_cons_succ]
                  refine wpAnyH_done (by kernel_rfl) ?_ _
                  have BX := hide (bw_tr (unhide BQ12) bx1)
                  clear T1 b1 bx1 HS16 KS16 BW12 BQ12 HPC2 HPV HPX
                  go_wp2_with fail
                  go_roundw
                  case rel => exact ⟨j + 1, by go_num, by omega, BX⟩
                  case measure => simp only [intOf]; omega
              · obtain rfl : j = M := by omega
                go_wp2_with fail
                go_roundw
                case rel => exact ⟨i + 1, by go_num, by omega, BQ⟩
                case measure => simp only [intOf]; omega
          · obtain rfl : i = NL := by omega
            have BW := hide (bw_tr (unhide B9) (unhide BR))
            obtain ⟨⟨cs0, cs1, cs2, cs3, cs4, cs5, cs6, cs7, cs8, cs9, cs10, cs11, cs12, cs13, cs14⟩, ⟨ds0, ds1, ds2, ds3, ds4, ds5, ds6, ds7, ds8, ds9, ds10, ds11, ds12, ds13, ds14⟩⟩ := unhide HSb wr (bw_tr (unhide HZ9) (unhide BR))
            have kd := unhide HKd wr (bw_tr (unhide HZ9) (unhide BR))
            have fz := fun j => froz_b' (i := j) kd
            have HR : Hid (((wr.drew.setCell ⟨W.heap.size + 1, 0, none⟩ (.int .i64 cg0)).setCell ⟨W.heap.size + 1, 1, none⟩ (.int .i64 cg1)).heap[W.heap.size + 1]? = some (.cells #[.int .i64 cg0, .int .i64 cg1, .int .i64 dg2, .int .i64 dg3, .int .i64 dg4, .bool dg5, .slice da1 dLA dk1, .slice da2 dLR dk2, .slice da3 dLQ dk3, .slice da4 dLJ dk4, .int .i64 dg10, .int .i64 dg11, .slice da5 dLN dk5, .int .i64 dg13, .int .i64 dg14] 31 (0, 0)) ∧ Below W.heap.size W ((wr.drew.setCell ⟨W.heap.size + 1, 0, none⟩ (.int .i64 cg0)).setCell ⟨W.heap.size + 1, 1, none⟩ (.int .i64 cg1)) ∧ Lgs ((wr.drew.setCell ⟨W.heap.size + 1, 0, none⟩ (.int .i64 cg0)).setCell ⟨W.heap.size + 1, 1, none⟩ (.int .i64 cg1)) (.slice a6 N1 q6) A1) := by
              refine ⟨poke_b (poke_b (W := wr.drew) kd _) _, (((unhide BW).drew).setCell (by simp) _).setCell (by simp) _, ?_⟩
              have ow := (unhide O9).bw (unhide BR)
              refine OwL.lgs (B := W.heap.size + 2) (OwL.keep ow (fun z hz => ?_)) (unhide HSA)
              have hzl := (ow.lt z hz).1
              rw [other_c (by omega), other_c (by omega)]
              rfl
            clear kd O9 L9 BR B9 HZ9
            go_upto_region 18 with fail
            go_cut [] from 113 to 118 (fun wx => Hid (wx.heap[W.heap.size + 1]? = some (.cells #[.int .i64 cg0, .int .i64 cg1, .int .i64 dg2, .int .i64 dg3, .int .i64 dg4, .bool dg5, .slice da1 dLA dk1, .slice da2 dLR dk2, .slice da3 dLQ dk3, .slice da4 dLJ dk4, .int .i64 dg10, .int .i64 dg11, .slice da5 dLN dk5, .int .i64 dg13, .int .i64 dg14] 31 (0, 0)) ∧ Below W.heap.size W wx ∧ Lgs wx (.slice a6 N1 q6) A1))
            case first =>
              go_region_law (fail)
              all_goals
                go_wp2_with fail
                go_meet
                case rel => exact HR
            case rest =>
            clear HR fz cs0 cs1 cs2 cs3 cs4 cs5 cs6 cs7 cs8 cs9 cs10 cs11 cs12 cs13 cs14 ds0 ds1 ds2 ds3 ds4 ds5 ds6 ds7 ds8 ds9 ds10 ds11 ds12 ds13 ds14
            have hcut' := hide hcut
            clear hcut
            have zd0 : wc.cell? ⟨W.heap.size + 1, 0, none⟩ = some (.int .i64 cg0) := blk_c (unhide hcut').1 rfl
            have zd1 : wc.cell? ⟨W.heap.size + 1, 1, none⟩ = some (.int .i64 cg1) := blk_c (unhide hcut').1 rfl
            have zd2 : wc.cell? ⟨W.heap.size + 1, 2, none⟩ = some (.int .i64 dg2) := blk_c (unhide hcut').1 rfl
            have zd3 : wc.cell? ⟨W.heap.size + 1, 3, none⟩ = some (.int .i64 dg3) := blk_c (unhide hcut').1 rfl
            have zd4 : wc.cell? ⟨W.heap.size + 1, 4, none⟩ = some (.int .i64 dg4) := blk_c (unhide hcut').1 rfl
            have zd5 : wc.cell? ⟨W.heap.size + 1, 5, none⟩ = some (.bool dg5) := blk_c (unhide hcut').1 rfl
            have zd6 : wc.cell? ⟨W.heap.size + 1, 6, none⟩ = some (.slice da1 dLA dk1) := blk_c (unhide hcut').1 rfl
            have zd7 : wc.cell? ⟨W.heap.size + 1, 7, none⟩ = some (.slice da2 dLR dk2) := blk_c (unhide hcut').1 rfl
            have zd8 : wc.cell? ⟨W.heap.size + 1, 8, none⟩ = some (.slice da3 dLQ dk3) := blk_c (unhide hcut').1 rfl
            have zd9 : wc.cell? ⟨W.heap.size + 1, 9, none⟩ = some (.slice da4 dLJ dk4) := blk_c (unhide hcut').1 rfl
            have zd10 : wc.cell? ⟨W.heap.size + 1, 10, none⟩ = some (.int .i64 dg10) := blk_c (unhide hcut').1 rfl
            have zd11 : wc.cell? ⟨W.heap.size + 1, 11, none⟩ = some (.int .i64 dg11) := blk_c (unhide hcut').1 rfl
            have zd12 : wc.cell? ⟨W.heap.size + 1, 12, none⟩ = some (.slice da5 dLN dk5) := blk_c (unhide hcut').1 rfl
            have zd13 : wc.cell? ⟨W.heap.size + 1, 13, none⟩ = some (.int .i64 dg13) := blk_c (unhide hcut').1 rfl
            have zd14 : wc.cell? ⟨W.heap.size + 1, 14, none⟩ = some (.int .i64 dg14) := blk_c (unhide hcut').1 rfl
            have K5 := hide (unhide KD2 wc _ A1 (unhide hcut').2.1 (unhide hcut').2.2 (unhide HSA) (unhide HSS).2.2 (by rw [(unhide HP).2]; exact app_twice (unhide HP).1 rfl rfl))
            have BC := hide (unhide hcut').2.1
            clear hcut'
            go_wp2_with fail
            refine (unhide K5).mono ?_
            rintro e w13 ⟨a13, q13, E2, rfl, hE2, b13⟩
            have B13 := hide (bw_tr (unhide BC) b13)
            clear b13 K5 BC
            rcases unhide hE2 with q9 | q9
            · subst q9
              clear hE2
              go_wp2_with fail
              refine (unhide KA w13 (unhide B13)).mono ?_
              rintro e z9 ⟨rfl, b9⟩
              have B9 := hide (bw_tr (unhide B13) b9)
              clear b9
              go_wp2_with fail
              go_ret
              exact ⟨rfl, unhide B9⟩
            · subst q9
              clear hE2
              go_wp2_with fail
              refine (unhide KA w13 (unhide B13)).mono ?_
              rintro e z9 ⟨rfl, b9⟩
              have B9 := hide (bw_tr (unhide B13) b9)
              clear b9
              go_wp2_with fail
              go_ret
              exact ⟨rfl, unhide B9⟩
    · have h3 : (E1 == 0) = false := by simp [h1]
      have hA : A1 = [] := unhide HE2 h1
      have hN0 : N1 = 0 := by rw [unhide HN1, hA]; rfl
      subst hN0
      go_wp2_with fail
      refine (unhide KA w6 (unhide B6)).mono ?_
      rintro e z9 ⟨rfl, b9⟩
      have B9 := hide (bw_tr (unhide B6) b9)
      clear b9
      go_wp2_with fail
      go_ret
      exact ⟨rfl, unhide B9⟩
end Go.Proofs.YthlbdajnkdkocaaDoor
