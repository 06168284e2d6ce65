/- Texts joined: LgL PoA PoB. -/
import Derived.Test.YtgmlkofogeoocaaGreatDoorZ13
import Derived.Deep.RegionLaw
/- A tree's copy; commits of one's own; a commit's copy (fresh.Tree, fresh.Commit). -/
namespace Go.Proofs.YtgmlkofogeoocaaGreatDoor
open Go.RowKit Go.Maps
set_option maxRecDepth 100000 in
set_option maxHeartbeats 4000000 in
theorem frTree_any {w : World} {v : Value} {T : List Nd} (h : Trd w v T) (hl : T.length ≤ 1073741824) (hu : ∀ n ∈ T, n.un.length ≤ 1073741824) :
    Calls Tryz.prog 91 #[.agg #[v]] w fun e w' => ∃ v' us, e = .returned (.agg #[v']) ∧ OTr w.heap.size w' v' T us ∧ Below w.heap.size w w' := by
  obtain ⟨w0, hw0⟩ : ∃ w0, w0 = (w.alloc (.cells #[v] 30)).alloc (.cells #[.slice none 0 0] 30) := ⟨_, rfl⟩
  have s0 : TwoB w w0 30 #[v] #[.slice none 0 0] := by rw [hw0]; exact TwoB.start _ _ _ _
  obtain ⟨us, hr⟩ := (h.bw s0.bel).rdl hu
  have KL := hide (listNode_any hr hl)
  obtain ⟨a, c, rfl⟩ := h.slice
  have S0 := hide s0
  have HW := hide hw0
  clear h hl hu hr s0 hw0
  generalize T.length = N at *
  go_enter Tryz.func91, Tryz.ntmps91
  go_upto_region 1 with fail
  rw [← unhide HW]
  clear HW
  have c0 : w0.cell? ⟨w.heap.size, 0, none⟩ = some (.slice a N c) := blk_c (unhide S0).k1 rfl
  go_wp2_with fail
  refine (unhide KL).mono ?_
  rintro e w1 ⟨v', us', rfl, ho, b1⟩
  obtain ⟨a', c', hv⟩ := own_slice ho.row
  have s1 := (unhide S0).bw b1
  have an := s1.answer [v'] rfl
  obtain ⟨WZ, hWZ⟩ : ∃ W, W = pokes w1 (w.heap.size + 1) 0 [v'] := ⟨_, rfl⟩
  rw [← hWZ] at an
  have HO : Hid (OTr w.heap.size WZ v' T us' ∧ Below w.heap.size w WZ) := by
    refine ⟨((ho.keep (fun k hk => an.2.2 k ?_)).mono ?_).otr, an.2.1⟩
    · have h1 := (ho.lt k hk).1
      have h2 := (unhide S0).two
      omega
    · have h2 := (unhide S0).two; omega
  subst hv
  have e0 : w1.cell? ⟨w.heap.size + 1, 0, none⟩ = some (.slice none 0 0) := blk_c s1.k2 rfl
  have fe := fun j => froz_b' (i := j) s1.k2
  have z0 : WZ.cell? ⟨w.heap.size + 1, 0, none⟩ = some (.slice a' T.length c') := blk_c an.1 rfl
  have HZ : Hid (WZ = w1.setCell ⟨w.heap.size + 1, 0, none⟩ (.slice a' T.length c')) := hWZ
  clear S0 KL ho b1 s1 an hWZ
  go_wp2_with fail
  rw [← unhide HZ]
  exact bodyPost_ret (v := .agg #[.slice a' T.length c']) (by simp [results, Tryz.results91, go_sem, z0]) rfl ⟨_, us', rfl, (unhide HO).1, (unhide HO).2⟩
structure SmC (c : Cm) : Prop where
  a : c.adds.length ≤ 1073741824
  r : c.rem.length ≤ 1073741824
  q : c.seals.length ≤ 1073741824
  j : c.joins.length ≤ 1073741824
  n : c.next.length ≤ 1073741824
  u : ∀ n ∈ c.next, n.un.length ≤ 1073741824
  fa : ∀ x ∈ c.adds, x.length = 3 ∧ ∀ z ∈ x, -9223372036854775808 ≤ z ∧ z ≤ 9223372036854775807
  fq : ∀ x ∈ c.seals, x.length = 3 ∧ ∀ z ∈ x, -9223372036854775808 ≤ z ∧ z ≤ 9223372036854775807
  fj : ∀ x ∈ c.joins, x.length = 2 ∧ ∀ z ∈ x, -9223372036854775808 ≤ z ∧ z ≤ 9223372036854775807
structure OC (B : Nat) (w : World) (c : Cm) (x : Cv) (us : List Value) : Prop where
  adds : w.ownsRow B 121 3 x.av c.adds.length (riC c.adds)
  rem : Ints B w x.rv c.rem
  seals : w.ownsRow B 124 3 x.qv c.seals.length (riC c.seals)
  joins : w.ownsRow B 127 2 x.jv c.joins.length (riC c.joins)
  next : OTr B w x.nv c.next us
  ap : ∀ (i : Nat) (u : Value) (k : Nat), us[i]? = some u → u.ownBlock = some k → x.rv.ownBlock ≠ some k
def cvZ (x : Cv) (us : List Value) : List Nat := x.av.ownBlock.toList ++ (x.rv.ownBlock.toList ++ (x.qv.ownBlock.toList ++ (x.jv.ownBlock.toList ++ zK kNd x.nv us)))
theorem cvZ_cases {x : Cv} {us : List Value} {k : Nat} (h : k ∈ cvZ x us) : x.av.ownBlock = some k ∨ x.rv.ownBlock = some k ∨ x.qv.ownBlock = some k ∨ x.jv.ownBlock = some k ∨ k ∈ zK kNd x.nv us := by
  simpa [cvZ] using h
theorem ri_own {B c : Nat} {w : World} {t : TypeId} {v : Value} {l : List (List Int)} (h : w.ownsRow B t c v l.length (riC l)) (hl : l.length ≤ 1073741824) (hf : ∀ x ∈ l, x.length = c ∧ ∀ z ∈ x, -9223372036854775808 ≤ z ∧ z ≤ 9223372036854775807) : RI c w v l := by
  refine ⟨by omega, hf, ?_⟩
  obtain ⟨a, cap, hv⟩ := own_slice h
  refine ⟨a, cap, hv, ?_⟩
  rcases Nat.eq_zero_or_pos l.length with h0 | h0
  · exact Or.inl (List.eq_nil_of_length_eq_zero h0)
  · obtain ⟨g, cap', hv', _, _, _⟩ := own_open h h0
    rw [hv] at hv'; cases hv'
    refine Or.inr ⟨g, 0, rfl, fun i x hi j z hj => ?_⟩
    have hR : ∀ r ∈ l.map (·.map I64), r.length = c := fun r hr => by
      obtain ⟨x, hx, rfl⟩ := List.mem_map.1 hr
      rw [List.length_map]; exact (hf x hx).1
    have hjc : j < c := by have := (List.getElem?_eq_some_iff.1 hj).1; rw [(hf x (List.mem_of_getElem? hi)).1] at this; exact this
    rw [Nat.zero_add]
    refine own_cell h (by rw [hv]; rfl) ?_
    unfold riC
    rw [fl_get hR hjc, List.getElem?_map, hi]
    simp only [Option.map_some, Option.bind_some, List.getElem?_map, hj]
    rfl
theorem OC.rd {B : Nat} {w : World} {c : Cm} {x : Cv} {us : List Value} (h : OC B w c x us) (hs : SmC c) : CmR w c x :=
  ⟨ri_own h.adds hs.a hs.fa, h.rem.nums, Nat.le_trans hs.r (by decide), ri_own h.seals hs.q hs.fq, ri_own h.joins hs.j hs.fj, h.next.trd (Nat.le_trans hs.n (by decide)) (fun n hn => Nat.le_trans (hs.u n hn) (by decide))⟩
theorem OC.keep {B : Nat} {w w' : World} {c : Cm} {x : Cv} {us : List Value} (h : OC B w c x us) (hk : ∀ k ∈ cvZ x us, w'.heap[k]? = w.heap[k]?) : OC B w' c x us :=
  ⟨own_keep h.adds (fun k hq => hk k (by simp [cvZ, hq])), own_keep h.rem (fun k hq => hk k (by simp [cvZ, hq])), own_keep h.seals (fun k hq => hk k (by simp [cvZ, hq])), own_keep h.joins (fun k hq => hk k (by simp [cvZ, hq])), (h.next.owl.keep (fun k hq => hk k (by simp [cvZ, hq]))).otr, h.ap⟩
theorem OC.lt {B : Nat} {w : World} {c : Cm} {x : Cv} {us : List Value} (h : OC B w c x us) : ∀ k ∈ cvZ x us, B ≤ k ∧ k < w.heap.size := by
  intro k hk
  rcases cvZ_cases hk with q | q | q | q | q
  · exact World.ownsRow.lt h.adds k q
  · exact World.ownsRow.lt h.rem k q
  · exact World.ownsRow.lt h.seals k q
  · exact World.ownsRow.lt h.joins k q
  · exact h.next.owl.lt k q
theorem OC.mono {B B' : Nat} {w : World} {c : Cm} {x : Cv} {us : List Value} (h : OC B w c x us) (hB : B' ≤ B) : OC B' w c x us :=
  ⟨own_mono h.adds hB, h.rem.mono hB, own_mono h.seals hB, own_mono h.joins hB, (h.next.owl.mono hB).otr, h.ap⟩
theorem cloneRIAdd_any {w : World} {v : Value} {l : List (List Int)} (h : RI 3 w v l) (hl : l.length ≤ 1073741824) :
    Calls Tryz.prog 87 #[v] w fun e w' => ∃ a cap, e = .returned (.slice a l.length cap) ∧ w'.ownsRow w.heap.size 121 3 (.slice a l.length cap) l.length (riC l) ∧ Below w.heap.size w w' := by
  obtain ⟨h1, h2, a, cap, rfl, hc⟩ := ri_src (by decide) h
  refine (cloneAdd_any h1 h2 hl hc).mono ?_
  rintro e w' ⟨v', rfl, ho, hb⟩
  obtain ⟨a', c', rfl⟩ := own_slice ho
  exact ⟨a', c', rfl, ho, hb⟩
theorem cloneRISeal_any {w : World} {v : Value} {l : List (List Int)} (h : RI 3 w v l) (hl : l.length ≤ 1073741824) :
    Calls Tryz.prog 89 #[v] w fun e w' => ∃ a cap, e = .returned (.slice a l.length cap) ∧ w'.ownsRow w.heap.size 124 3 (.slice a l.length cap) l.length (riC l) ∧ Below w.heap.size w w' := by
  obtain ⟨h1, h2, a, cap, rfl, hc⟩ := ri_src (by decide) h
  refine (cloneSeal_any h1 h2 hl hc).mono ?_
  rintro e w' ⟨v', rfl, ho, hb⟩
  obtain ⟨a', c', rfl⟩ := own_slice ho
  exact ⟨a', c', rfl, ho, hb⟩
theorem cloneRIJoin_any {w : World} {v : Value} {l : List (List Int)} (h : RI 2 w v l) (hl : l.length ≤ 1073741824) :
    Calls Tryz.prog 90 #[v] w fun e w' => ∃ a cap, e = .returned (.slice a l.length cap) ∧ w'.ownsRow w.heap.size 127 2 (.slice a l.length cap) l.length (riC l) ∧ Below w.heap.size w w' := by
  obtain ⟨h1, h2, a, cap, rfl, hc⟩ := ri_src (by decide) h
  refine (cloneJoin_any h1 h2 hl hc).mono ?_
  rintro e w' ⟨v', rfl, ho, hb⟩
  obtain ⟨a', c', rfl⟩ := own_slice ho
  exact ⟨a', c', rfl, ho, hb⟩
theorem cloneNm_any {w : World} {v : Value} {l : List Int} (h : Nums w v l) (hl : l.length ≤ 1073741824) :
    Calls Tryz.prog 88 #[v] w fun e w' => ∃ a cap, e = .returned (.slice a l.length cap) ∧ Ints w.heap.size w' (.slice a l.length cap) l ∧ Below w.heap.size w w' := by
  refine (cloneNums_any h hl).mono ?_
  rintro e w' ⟨v', rfl, ho, hb⟩
  obtain ⟨a', c', rfl⟩ := own_slice ho
  exact ⟨a', c', rfl, ho, hb⟩
set_option maxRecDepth 100000 in
set_option maxHeartbeats 16000000 in
theorem frCommit_any {w : World} {c : Cm} {x : Cv} (h : CmR w c x) (hs : SmC c) :
    Calls Tryz.prog 67 #[cmV c x] w fun e w' => ∃ x' us, e = .returned (cmV c x') ∧ OC w.heap.size w' c x' us ∧ Below w.heap.size w w' := by
  obtain ⟨w0, hw0⟩ : ∃ w0, w0 = (w.alloc (.cells (cmC c x).toArray 42)).alloc (.cells cm0 42) := ⟨_, rfl⟩
  have s0 : TwoB w w0 42 (cmC c x).toArray cm0 := by rw [hw0]; exact TwoB.start _ _ _ _
  have KA1 : Hid (∀ W, Below w.heap.size w W → Calls Tryz.prog 87 #[x.av] W fun e w' => ∃ a cap, e = .returned (.slice a c.adds.length cap) ∧ w'.ownsRow W.heap.size 121 3 (.slice a c.adds.length cap) c.adds.length (riC c.adds) ∧ Below W.heap.size W w') := fun W hW => cloneRIAdd_any (h.adds.bw hW) hs.a
  have KA2 : Hid (∀ W, Below w.heap.size w W → Calls Tryz.prog 88 #[x.rv] W fun e w' => ∃ a cap, e = .returned (.slice a c.rem.length cap) ∧ w'.ownsRow W.heap.size 3 1 (.slice a c.rem.length cap) c.rem.length (c.rem.map I64) ∧ Below W.heap.size W w') := fun W hW => cloneNm_any (h.rem.bw hW) hs.r
  have KA3 : Hid (∀ W, Below w.heap.size w W → Calls Tryz.prog 89 #[x.qv] W fun e w' => ∃ a cap, e = .returned (.slice a c.seals.length cap) ∧ w'.ownsRow W.heap.size 124 3 (.slice a c.seals.length cap) c.seals.length (riC c.seals) ∧ Below W.heap.size W w') := fun W hW => cloneRISeal_any (h.seals.bw hW) hs.q
  have KA4 : Hid (∀ W, Below w.heap.size w W → Calls Tryz.prog 90 #[x.jv] W fun e w' => ∃ a cap, e = .returned (.slice a c.joins.length cap) ∧ w'.ownsRow W.heap.size 127 2 (.slice a c.joins.length cap) c.joins.length (riC c.joins) ∧ Below W.heap.size W w') := fun W hW => cloneRIJoin_any (h.joins.bw hW) hs.j
  have KA5 : Hid (∀ W, Below w.heap.size w W → Calls Tryz.prog 91 #[.agg #[x.nv]] W fun e w' => ∃ v' us, e = .returned (.agg #[v']) ∧ OTr W.heap.size w' v' c.next us ∧ Below W.heap.size W w') := fun W hW => frTree_any (h.next.bw hW) hs.n hs.u
  obtain ⟨a1, k1, e1⟩ := h.adds.slice
  obtain ⟨a2, k2, e2⟩ := nums_slice h.rem
  obtain ⟨a3, k3, e3⟩ := h.seals.slice
  obtain ⟨a4, k4, e4⟩ := h.joins.slice
  obtain ⟨a5, k5, e5⟩ := h.next.slice
  clear h hs
  obtain ⟨g0, g1, g2, g3, g4, g5, adds, rem, seals, joins, g10, g11, next, g13, g14⟩ := c
  obtain ⟨av, rv, qv, jv, nv⟩ := x
  simp only at KA1 KA2 KA3 KA4 KA5 e1 e2 e3 e4 e5
  obtain ⟨LN, hLN⟩ : ∃ z, z = next.length := ⟨_, rfl⟩
  obtain ⟨LA, hLA⟩ : ∃ z, z = adds.length := ⟨_, rfl⟩
  obtain ⟨LR, hLR⟩ : ∃ z, z = rem.length := ⟨_, rfl⟩
  obtain ⟨LQ, hLQ⟩ : ∃ z, z = seals.length := ⟨_, rfl⟩
  obtain ⟨LJ, hLJ⟩ : ∃ z, z = joins.length := ⟨_, rfl⟩
  rw [← hLA] at KA1 e1
  rw [← hLR] at KA2 e2
  rw [← hLQ] at KA3 e3
  rw [← hLJ] at KA4 e4
  rw [← hLN] at e5
  subst e1 e2 e3 e4 e5
  have HW : Hid (w0 = (w.alloc (.cells #[.int .i64 g0, .int .i64 g1, .int .i64 g2, .int .i64 g3, .int .i64 g4, .bool g5, .slice a1 LA k1, .slice a2 LR k2, .slice a3 LQ k3, .slice a4 LJ k4, .int .i64 g10, .int .i64 g11, .slice a5 LN k5, .int .i64 g13, .int .i64 g14] 42)).alloc (.cells #[.int .i64 0, .int .i64 0, .int .i64 0, .int .i64 0, .int .i64 0, .bool false, .slice none 0 0, .slice none 0 0, .slice none 0 0, .slice none 0 0, .int .i64 0, .int .i64 0, .slice none 0 0, .int .i64 0, .int .i64 0] 42)) := hw0
  have S0 : Hid (TwoB w w0 42 #[.int .i64 g0, .int .i64 g1, .int .i64 g2, .int .i64 g3, .int .i64 g4, .bool g5, .slice a1 LA k1, .slice a2 LR k2, .slice a3 LQ k3, .slice a4 LJ k4, .int .i64 g10, .int .i64 g11, .slice a5 LN k5, .int .i64 g13, .int .i64 g14] cm0) := s0
  have HN := hide (And.intro hLN (And.intro hLA (And.intro hLR (And.intro hLQ hLJ))))
  unfold cmV cmC
  clear hw0 s0 hLN hLA hLR hLQ hLJ
  go_enter Tryz.func67, Tryz.ntmps67
  go_upto_region 1 with fail
  rw [← unhide HW]
  clear HW
  go_cut [] from 3 to 10 (fun wx => ∃ a1' k1' a2' k2', Hid (TwoB w wx 42 #[.int .i64 g0, .int .i64 g1, .int .i64 g2, .int .i64 g3, .int .i64 g4, .bool g5, .slice a1' LA k1', .slice a2' LR k2', .slice a3 LQ k3, .slice a4 LJ k4, .int .i64 g10, .int .i64 g11, .slice a5 LN k5, .int .i64 g13, .int .i64 g14] cm0 ∧ wx.ownsRow (w.heap.size + 2) 121 3 (.slice a1' LA k1') LA (riC adds) ∧ wx.ownsRow (w.heap.size + 2) 3 1 (.slice a2' LR k2') LR (rem.map I64)))
  case first =>
    have x1 : w0.drew.cell? ⟨w.heap.size, 6, none⟩ = some (.slice a1 LA k1) := blk_c (unhide S0).k1 rfl
    have x2 : w0.drew.cell? ⟨w.heap.size, 7, none⟩ = some (.slice a2 LR k2) := blk_c (unhide S0).k1 rfl
    have KA := hide (unhide KA1 w0.drew (unhide S0).bel.drew)
    go_region_law (go_simp; go_wp2_with (first
      | (go_at_call 87; refine (unhide KA).mono ?_; rintro e_ zz ⟨a1', k1', rfl, ho1, b1⟩; have T1 := hide (((unhide S0).bw (Below.refl _ _).drew).bw b1); have y1 : zz.cell? ⟨w.heap.size, 6, none⟩ = some (.slice a1 LA k1) := blk_c (unhide T1).k1 rfl; have y2 : zz.cell? ⟨w.heap.size, 7, none⟩ = some (.slice a2 LR k2) := blk_c (unhide T1).k1 rfl; have KB := hide (unhide KA2 zz (unhide T1).bel); have HO1 := hide (And.intro ho1 b1); clear ho1 b1)
      | (go_at_call 88; refine (unhide KB).mono ?_; rintro e_ z2 ⟨a2', k2', rfl, ho2, b2⟩; have T2 := hide ((unhide T1).bw b2); have u1 : z2.cell? ⟨w.heap.size, 6, none⟩ = some (.slice a1 LA k1) := blk_c (unhide T2).k1 rfl; have u2 : z2.cell? ⟨w.heap.size, 7, none⟩ = some (.slice a2 LR k2) := blk_c (unhide T2).k1 rfl; have fz := fun j => froz_b' (i := j) (unhide T2).k1; have HO2 := hide (And.intro ho2 b2); clear ho2 b2)))
    all_goals
      have HR : Hid (TwoB w ((z2.setCell ⟨w.heap.size, 6, none⟩ (.slice a1' LA k1')).setCell ⟨w.heap.size, 7, none⟩ (.slice a2' LR k2')) 42 #[.int .i64 g0, .int .i64 g1, .int .i64 g2, .int .i64 g3, .int .i64 g4, .bool g5, .slice a1' LA k1', .slice a2' LR k2', .slice a3 LQ k3, .slice a4 LJ k4, .int .i64 g10, .int .i64 g11, .slice a5 LN k5, .int .i64 g13, .int .i64 g14] cm0 ∧ ((z2.setCell ⟨w.heap.size, 6, none⟩ (.slice a1' LA k1')).setCell ⟨w.heap.size, 7, none⟩ (.slice a2' LR k2')).ownsRow (w.heap.size + 2) 121 3 (.slice a1' LA k1') LA (riC adds) ∧ ((z2.setCell ⟨w.heap.size, 6, none⟩ (.slice a1' LA k1')).setCell ⟨w.heap.size, 7, none⟩ (.slice a2' LR k2')).ownsRow (w.heap.size + 2) 3 1 (.slice a2' LR k2') LR (rem.map I64)) := by
        have p1 := (unhide T2).poke 6 (.slice a1' LA k1')
        have p2 := p1.1.poke 7 (.slice a2' LR k2')
        have h2 := (unhide S0).two
        have hs1 : w.heap.size + 2 ≤ zz.heap.size := (unhide T1).two
        have kp : ∀ k, w.heap.size + 2 ≤ k → ((z2.setCell ⟨w.heap.size, 6, none⟩ (.slice a1' LA k1')).setCell ⟨w.heap.size, 7, none⟩ (.slice a2' LR k2')).heap[k]? = z2.heap[k]? := fun k hk => by rw [p2.2 k hk, p1.2 k hk]
        have kb : ∀ k, w.heap.size + 2 ≤ k → k < zz.heap.size → ((z2.setCell ⟨w.heap.size, 6, none⟩ (.slice a1' LA k1')).setCell ⟨w.heap.size, 7, none⟩ (.slice a2' LR k2')).heap[k]? = zz.heap[k]? := fun k hk hk2 => by rw [kp k hk]; exact (unhide HO2).2.block k hk2
        have o1 := own_mono (unhide HO1).1 (show w.heap.size + 2 ≤ _ from h2)
        have o2 := own_mono (unhide HO2).1 hs1
        exact ⟨p2.1, own_keep o1 (fun k hk => kb k (World.ownsRow.lt o1 k hk).1 (World.ownsRow.lt o1 k hk).2), own_keep o2 (fun k hk => kp k (World.ownsRow.lt o2 k hk).1)⟩
      go_wp2_with fail
      go_meet
      case rel => exact ⟨_, _, _, _, HR⟩
  case rest =>
  obtain ⟨a1', k1', a2', k2', hcut⟩ := hcut
  have S0n := hcut
  clear hcut KA1 KA2 S0
  obtain ⟨wd, hwd⟩ : ∃ wd, wd = wc := ⟨_, rfl⟩
  rw [← hwd]
  have S0 := hide (by rw [← hwd] at S0n; exact (unhide S0n).1)
  have R1 := hide (by rw [← hwd] at S0n; exact (unhide S0n).2)
  clear hwd S0n
  go_upto_region 2 with fail

  go_cut [] from 11 to 18 (fun wx => ∃ a3' k3' a4' k4', Hid (TwoB w wx 42 #[.int .i64 g0, .int .i64 g1, .int .i64 g2, .int .i64 g3, .int .i64 g4, .bool g5, .slice a1' LA k1', .slice a2' LR k2', .slice a3' LQ k3', .slice a4' LJ k4', .int .i64 g10, .int .i64 g11, .slice a5 LN k5, .int .i64 g13, .int .i64 g14] cm0 ∧ wx.ownsRow (w.heap.size + 2) 121 3 (.slice a1' LA k1') LA (riC adds) ∧ wx.ownsRow (w.heap.size + 2) 3 1 (.slice a2' LR k2') LR (rem.map I64) ∧ wx.ownsRow (w.heap.size + 2) 124 3 (.slice a3' LQ k3') LQ (riC seals) ∧ wx.ownsRow (w.heap.size + 2) 127 2 (.slice a4' LJ k4') LJ (riC joins)))
  case first =>
    have x1 : wd.drew.cell? ⟨w.heap.size, 8, none⟩ = some (.slice a3 LQ k3) := blk_c (unhide S0).k1 rfl
    have x2 : wd.drew.cell? ⟨w.heap.size, 9, none⟩ = some (.slice a4 LJ k4) := blk_c (unhide S0).k1 rfl
    have KA := hide (unhide KA3 wd.drew (unhide S0).bel.drew)
    go_region_law (go_simp; go_wp2_with (first
      | (go_at_call 89; refine (unhide KA).mono ?_; rintro e_ zz ⟨a3', k3', rfl, ho1, b1⟩; have T1 := hide (((unhide S0).bw (Below.refl _ _).drew).bw b1); have y1 : zz.cell? ⟨w.heap.size, 8, none⟩ = some (.slice a3 LQ k3) := blk_c (unhide T1).k1 rfl; have y2 : zz.cell? ⟨w.heap.size, 9, none⟩ = some (.slice a4 LJ k4) := blk_c (unhide T1).k1 rfl; have KB := hide (unhide KA4 zz (unhide T1).bel); have HO1 := hide (And.intro ho1 b1); clear ho1 b1)
      | (go_at_call 90; refine (unhide KB).mono ?_; rintro e_ z2 ⟨a4', k4', rfl, ho2, b2⟩; have T2 := hide ((unhide T1).bw b2); have u1 : z2.cell? ⟨w.heap.size, 8, none⟩ = some (.slice a3 LQ k3) := blk_c (unhide T2).k1 rfl; have u2 : z2.cell? ⟨w.heap.size, 9, none⟩ = some (.slice a4 LJ k4) := blk_c (unhide T2).k1 rfl; have fz := fun j => froz_b' (i := j) (unhide T2).k1; have HO2 := hide (And.intro ho2 b2); clear ho2 b2)))
    all_goals
      have HR : Hid (TwoB w ((z2.setCell ⟨w.heap.size, 8, none⟩ (.slice a3' LQ k3')).setCell ⟨w.heap.size, 9, none⟩ (.slice a4' LJ k4')) 42 #[.int .i64 g0, .int .i64 g1, .int .i64 g2, .int .i64 g3, .int .i64 g4, .bool g5, .slice a1' LA k1', .slice a2' LR k2', .slice a3' LQ k3', .slice a4' LJ k4', .int .i64 g10, .int .i64 g11, .slice a5 LN k5, .int .i64 g13, .int .i64 g14] cm0 ∧ ((z2.setCell ⟨w.heap.size, 8, none⟩ (.slice a3' LQ k3')).setCell ⟨w.heap.size, 9, none⟩ (.slice a4' LJ k4')).ownsRow (w.heap.size + 2) 121 3 (.slice a1' LA k1') LA (riC adds) ∧ ((z2.setCell ⟨w.heap.size, 8, none⟩ (.slice a3' LQ k3')).setCell ⟨w.heap.size, 9, none⟩ (.slice a4' LJ k4')).ownsRow (w.heap.size + 2) 3 1 (.slice a2' LR k2') LR (rem.map I64) ∧ ((z2.setCell ⟨w.heap.size, 8, none⟩ (.slice a3' LQ k3')).setCell ⟨w.heap.size, 9, none⟩ (.slice a4' LJ k4')).ownsRow (w.heap.size + 2) 124 3 (.slice a3' LQ k3') LQ (riC seals) ∧ ((z2.setCell ⟨w.heap.size, 8, none⟩ (.slice a3' LQ k3')).setCell ⟨w.heap.size, 9, none⟩ (.slice a4' LJ k4')).ownsRow (w.heap.size + 2) 127 2 (.slice a4' LJ k4') LJ (riC joins)) := by
        have p1 := (unhide T2).poke 8 (.slice a3' LQ k3')
        have p2 := p1.1.poke 9 (.slice a4' LJ k4')
        have h2 := (unhide S0).two
        have hs1 : w.heap.size + 2 ≤ zz.heap.size := (unhide T1).two
        have kp : ∀ k, w.heap.size + 2 ≤ k → ((z2.setCell ⟨w.heap.size, 8, none⟩ (.slice a3' LQ k3')).setCell ⟨w.heap.size, 9, none⟩ (.slice a4' LJ k4')).heap[k]? = z2.heap[k]? := fun k hk => by rw [p2.2 k hk, p1.2 k hk]
        have kb : ∀ k, w.heap.size + 2 ≤ k → k < zz.heap.size → ((z2.setCell ⟨w.heap.size, 8, none⟩ (.slice a3' LQ k3')).setCell ⟨w.heap.size, 9, none⟩ (.slice a4' LJ k4')).heap[k]? = zz.heap[k]? := fun k hk hk2 => by rw [kp k hk]; exact (unhide HO2).2.block k hk2
        have o1 := own_mono (unhide HO1).1 (show w.heap.size + 2 ≤ _ from h2)
        have o2 := own_mono (unhide HO2).1 hs1
        exact ⟨p2.1, (by
          have q := (unhide R1).1
          exact own_keep q (fun k hk => by have h9 := World.ownsRow.lt q k hk; rw [kb k h9.1 (Nat.lt_of_lt_of_le h9.2 (unhide HO1).2.size)]; exact (unhide HO1).2.block k h9.2)), (by
          have q := (unhide R1).2
          exact own_keep q (fun k hk => by have h9 := World.ownsRow.lt q k hk; rw [kb k h9.1 (Nat.lt_of_lt_of_le h9.2 (unhide HO1).2.size)]; exact (unhide HO1).2.block k h9.2)), own_keep o1 (fun k hk => kb k (World.ownsRow.lt o1 k hk).1 (World.ownsRow.lt o1 k hk).2), own_keep o2 (fun k hk => kp k (World.ownsRow.lt o2 k hk).1)⟩
      go_wp2_with fail
      go_meet
      case rel => exact ⟨_, _, _, _, HR⟩
  case rest =>
  obtain ⟨a3', k3', a4', k4', hcut⟩ := hcut
  have S0n := hcut
  clear hcut KA3 KA4 S0
  obtain ⟨we, hwe⟩ : ∃ we, we = wc := ⟨_, rfl⟩
  rw [← hwe]
  have S0 := hide (by rw [← hwe] at S0n; exact (unhide S0n).1)
  have R2 := hide (by rw [← hwe] at S0n; exact (unhide S0n).2)
  clear hwe S0n R1
  have x12 : we.cell? ⟨w.heap.size, 12, none⟩ = some (.slice a5 LN k5) := blk_c (unhide S0).k1 rfl
  go_wp2_with fail
  refine (unhide KA5 we (unhide S0).bel).mono ?_
  rintro e w1 ⟨v5, us, rfl, ho, b1⟩
  obtain ⟨a5', k5', hv5⟩ := own_slice ho.row
  rw [← (unhide HN).1] at hv5
  subst hv5
  have s1 := (unhide S0).bw b1
  have p1 := s1.poke 12 (.slice a5' LN k5')
  obtain ⟨V1, hV1⟩ : ∃ V, V = w1.setCell ⟨w.heap.size, 12, none⟩ (.slice a5' LN k5') := ⟨_, rfl⟩
  rw [← hV1] at p1
  have s2 : TwoB w V1 42 #[.int .i64 g0, .int .i64 g1, .int .i64 g2, .int .i64 g3, .int .i64 g4, .bool g5, .slice a1' LA k1', .slice a2' LR k2', .slice a3' LQ k3', .slice a4' LJ k4', .int .i64 g10, .int .i64 g11, .slice a5' LN k5', .int .i64 g13, .int .i64 g14] cm0 := p1.1
  have an := s2.answer [.int .i64 g0, .int .i64 g1, .int .i64 g2, .int .i64 g3, .int .i64 g4, .bool g5, .slice a1' LA k1', .slice a2' LR k2', .slice a3' LQ k3', .slice a4' LJ k4', .int .i64 g10, .int .i64 g11, .slice a5' LN k5', .int .i64 g13, .int .i64 g14] rfl
  obtain ⟨WZ, hWZ⟩ : ∃ W, W = pokes V1 (w.heap.size + 1) 0 [.int .i64 g0, .int .i64 g1, .int .i64 g2, .int .i64 g3, .int .i64 g4, .bool g5, .slice a1' LA k1', .slice a2' LR k2', .slice a3' LQ k3', .slice a4' LJ k4', .int .i64 g10, .int .i64 g11, .slice a5' LN k5', .int .i64 g13, .int .i64 g14] := ⟨_, rfl⟩
  rw [← hWZ] at an
  have HO : Hid (OC w.heap.size WZ ⟨g0, g1, g2, g3, g4, g5, adds, rem, seals, joins, g10, g11, next, g13, g14⟩ ⟨.slice a1' LA k1', .slice a2' LR k2', .slice a3' LQ k3', .slice a4' LJ k4', .slice a5' LN k5'⟩ us ∧ Below w.heap.size w WZ) := by
    have h2 := (unhide S0).two
    obtain ⟨q1, q2, q3, q4⟩ := unhide R2
    obtain ⟨hN, hA, hR, hQ, hJ⟩ := unhide HN
    have kp : ∀ k, w.heap.size + 2 ≤ k → WZ.heap[k]? = w1.heap[k]? := fun k hk => by rw [an.2.2 k hk, p1.2 k hk]
    have kb : ∀ k, w.heap.size + 2 ≤ k → k < we.heap.size → WZ.heap[k]? = we.heap[k]? := fun k hk hk2 => by rw [kp k hk]; exact b1.block k hk2
    have kk : ∀ {t : TypeId} {cc nn : Nat} {vv : Value} {ll : List Value}, we.ownsRow (w.heap.size + 2) t cc vv nn ll → WZ.ownsRow w.heap.size t cc vv nn ll := fun q => own_mono (own_keep q (fun k hk => kb k (World.ownsRow.lt q k hk).1 (World.ownsRow.lt q k hk).2)) (by omega)
    refine ⟨⟨?_, ?_, ?_, ?_, ?_, ?_⟩, an.2.1⟩
    · show WZ.ownsRow w.heap.size 121 3 (.slice a1' LA k1') adds.length (riC adds)
      rw [← hA]; exact kk q1
    · show WZ.ownsRow w.heap.size 3 1 (.slice a2' LR k2') rem.length (rem.map I64)
      rw [← hR]; exact kk q2
    · show WZ.ownsRow w.heap.size 124 3 (.slice a3' LQ k3') seals.length (riC seals)
      rw [← hQ]; exact kk q3
    · show WZ.ownsRow w.heap.size 127 2 (.slice a4' LJ k4') joins.length (riC joins)
      rw [← hJ]; exact kk q4
    · exact ((ho.owl.keep (fun k hk => kp k (by have := (ho.owl.lt k hk).1; omega))).mono (by omega)).otr
    · intro i u k hu hk hq
      have h8 := (World.ownsRow.lt q2 k hq).2
      have h9 := (ho.owl.lt k (zK_el (K := kNd) hu (by show k ∈ u.ownBlock.toList; simp [hk]))).1
      omega
  have y12 : w1.cell? ⟨w.heap.size, 12, none⟩ = some (.slice a5 LN k5) := blk_c s1.k1 rfl
  have f3 := fun j => froz_b' (i := j) s1.k1
  have d0_ : V1.cell? ⟨w.heap.size, 0, none⟩ = some (.int .i64 g0) := blk_c s2.k1 rfl
  have d1_ : V1.cell? ⟨w.heap.size, 1, none⟩ = some (.int .i64 g1) := blk_c s2.k1 rfl
  have d2_ : V1.cell? ⟨w.heap.size, 2, none⟩ = some (.int .i64 g2) := blk_c s2.k1 rfl
  have d3_ : V1.cell? ⟨w.heap.size, 3, none⟩ = some (.int .i64 g3) := blk_c s2.k1 rfl
  have d4_ : V1.cell? ⟨w.heap.size, 4, none⟩ = some (.int .i64 g4) := blk_c s2.k1 rfl
  have d5_ : V1.cell? ⟨w.heap.size, 5, none⟩ = some (.bool g5) := blk_c s2.k1 rfl
  have d6_ : V1.cell? ⟨w.heap.size, 6, none⟩ = some (.slice a1' LA k1') := blk_c s2.k1 rfl
  have d7_ : V1.cell? ⟨w.heap.size, 7, none⟩ = some (.slice a2' LR k2') := blk_c s2.k1 rfl
  have d8_ : V1.cell? ⟨w.heap.size, 8, none⟩ = some (.slice a3' LQ k3') := blk_c s2.k1 rfl
  have d9_ : V1.cell? ⟨w.heap.size, 9, none⟩ = some (.slice a4' LJ k4') := blk_c s2.k1 rfl
  have d10_ : V1.cell? ⟨w.heap.size, 10, none⟩ = some (.int .i64 g10) := blk_c s2.k1 rfl
  have d11_ : V1.cell? ⟨w.heap.size, 11, none⟩ = some (.int .i64 g11) := blk_c s2.k1 rfl
  have d12_ : V1.cell? ⟨w.heap.size, 12, none⟩ = some (.slice a5' LN k5') := blk_c s2.k1 rfl
  have d13_ : V1.cell? ⟨w.heap.size, 13, none⟩ = some (.int .i64 g13) := blk_c s2.k1 rfl
  have d14_ : V1.cell? ⟨w.heap.size, 14, none⟩ = some (.int .i64 g14) := blk_c s2.k1 rfl
  have e0_ : V1.cell? ⟨w.heap.size + 1, 0, none⟩ = some (.int .i64 0) := blk_c s2.k2 rfl
  have e1_ : V1.cell? ⟨w.heap.size + 1, 1, none⟩ = some (.int .i64 0) := blk_c s2.k2 rfl
  have e2_ : V1.cell? ⟨w.heap.size + 1, 2, none⟩ = some (.int .i64 0) := blk_c s2.k2 rfl
  have e3_ : V1.cell? ⟨w.heap.size + 1, 3, none⟩ = some (.int .i64 0) := blk_c s2.k2 rfl
  have e4_ : V1.cell? ⟨w.heap.size + 1, 4, none⟩ = some (.int .i64 0) := blk_c s2.k2 rfl
  have e5_ : V1.cell? ⟨w.heap.size + 1, 5, none⟩ = some (.bool false) := blk_c s2.k2 rfl
  have e6_ : V1.cell? ⟨w.heap.size + 1, 6, none⟩ = some (.slice none 0 0) := blk_c s2.k2 rfl
  have e7_ : V1.cell? ⟨w.heap.size + 1, 7, none⟩ = some (.slice none 0 0) := blk_c s2.k2 rfl
  have e8_ : V1.cell? ⟨w.heap.size + 1, 8, none⟩ = some (.slice none 0 0) := blk_c s2.k2 rfl
  have e9_ : V1.cell? ⟨w.heap.size + 1, 9, none⟩ = some (.slice none 0 0) := blk_c s2.k2 rfl
  have e10_ : V1.cell? ⟨w.heap.size + 1, 10, none⟩ = some (.int .i64 0) := blk_c s2.k2 rfl
  have e11_ : V1.cell? ⟨w.heap.size + 1, 11, none⟩ = some (.int .i64 0) := blk_c s2.k2 rfl
  have e12_ : V1.cell? ⟨w.heap.size + 1, 12, none⟩ = some (.slice none 0 0) := blk_c s2.k2 rfl
  have e13_ : V1.cell? ⟨w.heap.size + 1, 13, none⟩ = some (.int .i64 0) := blk_c s2.k2 rfl
  have e14_ : V1.cell? ⟨w.heap.size + 1, 14, none⟩ = some (.int .i64 0) := blk_c s2.k2 rfl
  have fe := fun j => froz_b' (i := j) s2.k2
  have z0_ : WZ.cell? ⟨w.heap.size + 1, 0, none⟩ = some (.int .i64 g0) := blk_c an.1 rfl
  have z1_ : WZ.cell? ⟨w.heap.size + 1, 1, none⟩ = some (.int .i64 g1) := blk_c an.1 rfl
  have z2_ : WZ.cell? ⟨w.heap.size + 1, 2, none⟩ = some (.int .i64 g2) := blk_c an.1 rfl
  have z3_ : WZ.cell? ⟨w.heap.size + 1, 3, none⟩ = some (.int .i64 g3) := blk_c an.1 rfl
  have z4_ : WZ.cell? ⟨w.heap.size + 1, 4, none⟩ = some (.int .i64 g4) := blk_c an.1 rfl
  have z5_ : WZ.cell? ⟨w.heap.size + 1, 5, none⟩ = some (.bool g5) := blk_c an.1 rfl
  have z6_ : WZ.cell? ⟨w.heap.size + 1, 6, none⟩ = some (.slice a1' LA k1') := blk_c an.1 rfl
  have z7_ : WZ.cell? ⟨w.heap.size + 1, 7, none⟩ = some (.slice a2' LR k2') := blk_c an.1 rfl
  have z8_ : WZ.cell? ⟨w.heap.size + 1, 8, none⟩ = some (.slice a3' LQ k3') := blk_c an.1 rfl
  have z9_ : WZ.cell? ⟨w.heap.size + 1, 9, none⟩ = some (.slice a4' LJ k4') := blk_c an.1 rfl
  have z10_ : WZ.cell? ⟨w.heap.size + 1, 10, none⟩ = some (.int .i64 g10) := blk_c an.1 rfl
  have z11_ : WZ.cell? ⟨w.heap.size + 1, 11, none⟩ = some (.int .i64 g11) := blk_c an.1 rfl
  have z12_ : WZ.cell? ⟨w.heap.size + 1, 12, none⟩ = some (.slice a5' LN k5') := blk_c an.1 rfl
  have z13_ : WZ.cell? ⟨w.heap.size + 1, 13, none⟩ = some (.int .i64 g13) := blk_c an.1 rfl
  have z14_ : WZ.cell? ⟨w.heap.size + 1, 14, none⟩ = some (.int .i64 g14) := blk_c an.1 rfl
  have HV := hide hV1
  have HZ : Hid (WZ = (((((((((((((((V1).setCell ⟨w.heap.size + 1, 0, none⟩ (.int .i64 g0)).setCell ⟨w.heap.size + 1, 1, none⟩ (.int .i64 g1)).setCell ⟨w.heap.size + 1, 2, none⟩ (.int .i64 g2)).setCell ⟨w.heap.size + 1, 3, none⟩ (.int .i64 g3)).setCell ⟨w.heap.size + 1, 4, none⟩ (.int .i64 g4)).setCell ⟨w.heap.size + 1, 5, none⟩ (.bool g5)).setCell ⟨w.heap.size + 1, 6, none⟩ (.slice a1' LA k1')).setCell ⟨w.heap.size + 1, 7, none⟩ (.slice a2' LR k2')).setCell ⟨w.heap.size + 1, 8, none⟩ (.slice a3' LQ k3')).setCell ⟨w.heap.size + 1, 9, none⟩ (.slice a4' LJ k4')).setCell ⟨w.heap.size + 1, 10, none⟩ (.int .i64 g10)).setCell ⟨w.heap.size + 1, 11, none⟩ (.int .i64 g11)).setCell ⟨w.heap.size + 1, 12, none⟩ (.slice a5' LN k5')).setCell ⟨w.heap.size + 1, 13, none⟩ (.int .i64 g13)).setCell ⟨w.heap.size + 1, 14, none⟩ (.int .i64 g14)) := hWZ
  clear S0 KA5 ho b1 s1 p1 hV1 s2 an hWZ R2 x12
  go_upto_region 4 with fail
  rw [← unhide HV]
  clear HV y12 f3
  go_wp2_with fail
  rw [← unhide HZ]
  exact bodyPost_ret (v := .agg #[.int .i64 g0, .int .i64 g1, .int .i64 g2, .int .i64 g3, .int .i64 g4, .bool g5, .slice a1' LA k1', .slice a2' LR k2', .slice a3' LQ k3', .slice a4' LJ k4', .int .i64 g10, .int .i64 g11, .slice a5' LN k5', .int .i64 g13, .int .i64 g14]) (by simp [results, Tryz.results67, go_sem, z0_, z1_, z2_, z3_, z4_, z5_, z6_, z7_, z8_, z9_, z10_, z11_, z12_, z13_, z14_]) rfl ⟨⟨.slice a1' LA k1', .slice a2' LR k2', .slice a3' LQ k3', .slice a4' LJ k4', .slice a5' LN k5'⟩, us, rfl, (unhide HO).1, (unhide HO).2⟩
end Go.Proofs.YtgmlkofogeoocaaGreatDoor

/- Mails and boxes in memory: what they read as, and of one's own. No walk is in this text. -/
namespace Go.Proofs.YtgmlkofogeoocaaGreatDoor
open Go.RowKit Go.Maps
structure Ml where
  kd : Int
  cm : Cm
  gr : Int
  ep : Int
  c0 : Int
  c1 : Int
  c2 : Int
  f0 : Int
  f1 : Int
  tr : List Nd
  f3 : Int
  n0 : Int
  n1 : Int
  n2 : Int
  n3 : Int
  n4 : Int
structure Mx where
  cx : Cv
  us : List Value
  tv : Value
  ts : List Value
def mlC (m : Ml) (x : Mx) : List Value := [.int .u8 m.kd, .int .i64 m.cm.gr, .int .i64 m.cm.ep, .int .i64 m.cm.dev, .int .i64 m.cm.mem, .int .i64 m.cm.ke, .bool m.cm.ext, x.cx.av, x.cx.rv, x.cx.qv, x.cx.jv, .int .i64 m.cm.own, .int .i64 m.cm.ent, x.cx.nv, .int .i64 m.cm.face, .int .i64 m.cm.card, .int .i64 m.gr, .int .i64 m.ep, .int .i64 m.c0, .int .i64 m.c1, .int .i64 m.c2, .int .i64 m.f0, .int .i64 m.f1, x.tv, .int .i64 m.f3, .int .i64 m.n0, .int .i64 m.n1, .int .i64 m.n2, .int .i64 m.n3, .int .i64 m.n4]
def ml0 : Array Value := #[.int .u8 0, .int .i64 0, .int .i64 0, .int .i64 0, .int .i64 0, .int .i64 0, .bool false, .slice none 0 0, .slice none 0 0, .slice none 0 0, .slice none 0 0, .int .i64 0, .int .i64 0, .slice none 0 0, .int .i64 0, .int .i64 0, .int .i64 0, .int .i64 0, .int .i64 0, .int .i64 0, .int .i64 0, .int .i64 0, .int .i64 0, .slice none 0 0, .int .i64 0, .int .i64 0, .int .i64 0, .int .i64 0, .int .i64 0, .int .i64 0]
structure MlR (w : World) (m : Ml) (x : Mx) : Prop where
  c : CmR w m.cm x.cx
  t : Trd w x.tv m.tr
theorem MlR.bw {w w' : World} {m : Ml} {x : Mx} (h : MlR w m x) (hb : Below w.heap.size w w') : MlR w' m x := ⟨h.c.bw hb, h.t.bw hb⟩
structure SmM (m : Ml) : Prop where
  c : SmC m.cm
  n : m.tr.length ≤ 1073741824
  u : ∀ n ∈ m.tr, n.un.length ≤ 1073741824
  b : ∀ z ∈ [m.c0, m.c1, m.c2, m.n0, m.n1, m.n2, m.n3, m.n4], -9223372036854775808 ≤ z ∧ z ≤ 9223372036854775807
structure OM (B : Nat) (w : World) (m : Ml) (x : Mx) : Prop where
  c : OC B w m.cm x.cx x.us
  t : OTr B w x.tv m.tr x.ts
  ap : ∀ k ∈ cvZ x.cx x.us, k ∉ zK kNd x.tv x.ts
def mxZ (x : Mx) : List Nat := cvZ x.cx x.us ++ zK kNd x.tv x.ts
theorem OM.rd {B : Nat} {w : World} {m : Ml} {x : Mx} (h : OM B w m x) (hs : SmM m) : MlR w m x :=
  ⟨h.c.rd hs.c, h.t.trd (Nat.le_trans hs.n (by decide)) (fun n hn => Nat.le_trans (hs.u n hn) (by decide))⟩
theorem OM.keep {B : Nat} {w w' : World} {m : Ml} {x : Mx} (h : OM B w m x) (hk : ∀ k ∈ mxZ x, w'.heap[k]? = w.heap[k]?) : OM B w' m x :=
  ⟨h.c.keep (fun k hq => hk k (List.mem_append_left _ hq)), (h.t.owl.keep (fun k hq => hk k (List.mem_append_right _ hq))).otr, h.ap⟩
theorem OM.lt {B : Nat} {w : World} {m : Ml} {x : Mx} (h : OM B w m x) : ∀ k ∈ mxZ x, B ≤ k ∧ k < w.heap.size := by
  intro k hk
  rcases List.mem_append.1 hk with q | q
  · exact h.c.lt k q
  · exact h.t.owl.lt k q
theorem OM.mono {B B' : Nat} {w : World} {m : Ml} {x : Mx} (h : OM B w m x) (hB : B' ≤ B) : OM B' w m x :=
  ⟨h.c.mono hB, (h.t.owl.mono hB).otr, h.ap⟩
set_option maxRecDepth 100000 in
theorem ml_one {w : World} {m : Ml} {x : Mx} (h : MlR w m x) : ∀ u ∈ mlC m x, u.oneCell' = true := by
  obtain ⟨a1, k1, e1⟩ := h.c.adds.slice
  obtain ⟨a2, k2, e2⟩ := nums_slice h.c.rem
  obtain ⟨a3, k3, e3⟩ := h.c.seals.slice
  obtain ⟨a4, k4, e4⟩ := h.c.joins.slice
  obtain ⟨a5, k5, e5⟩ := h.c.next.slice
  obtain ⟨a6, k6, e6⟩ := h.t.slice
  have : (mlC m x).all (fun u => u.oneCell') = true := by
    simp only [mlC, e1, e2, e3, e4, e5, e6, List.all_cons, List.all_nil]
    rfl
  exact fun u hu => List.all_eq_true.1 this u hu
def kMl : EK Ml Mx where
  t := 50
  c := 30
  C := mlC
  Z := mxZ
  R := fun w m x => MlR w m x ∧ SmM m
  O := OM
  pos := by decide
  Cl := fun _ _ => rfl
  one := fun w m x h v hv => ml_one h.1 v hv
  bw := fun w w' m x h hb => ⟨h.1.bw hb, h.2⟩
  keep := fun B w w' m x h hk => OM.keep h hk
  lt := fun B w m x h => OM.lt h
  mono := fun B B' w m x h hB => OM.mono h hB
structure Bx where
  dev : Int
  out : Bool
  ml : List Ml
  dn : Int
structure SmB (b : Bx) : Prop where
  n : b.ml.length ≤ 1073741824
  m : ∀ m ∈ b.ml, SmM m
def bxC (b : Bx) (v : Value) : List Value := [.int .i64 b.dev, .bool b.out, v, .int .i64 b.dn]
theorem rdl_slice {α ξ : Type} {K : EK α ξ} {w : World} {v : Value} {l : List α} {xs : List ξ} (h : RdL K w v l xs) : ∃ a c, v = .slice a l.length c := by
  obtain ⟨a, c, e, _⟩ := h.form; exact ⟨a, c, e⟩
def kBx : EK Bx (Value × List Mx) where
  t := 69
  c := 4
  C := fun b x => bxC b x.1
  Z := fun x => zK kMl x.1 x.2
  R := fun w b x => RdL kMl w x.1 b.ml x.2 ∧ SmB b
  O := fun B w b x => OwL kMl B w x.1 b.ml x.2
  pos := by decide
  Cl := fun _ _ => rfl
  one := fun w b x h v hv => by
    obtain ⟨a1, k1, e1⟩ := rdl_slice h.1
    simp only [bxC, e1, List.mem_cons, List.not_mem_nil, or_false] at hv
    rcases hv with rfl | rfl | rfl | rfl <;> rfl
  bw := fun w w' b x h hb => ⟨h.1.bw hb, h.2⟩
  keep := fun B w w' b x h hk => OwL.keep h hk
  lt := fun B w b x h => OwL.lt h
  mono := fun B B' w b x h hB => OwL.mono h hB
structure SmX (l : List Bx) : Prop where
  n : l.length ≤ 1073741824
  b : ∀ b ∈ l, SmB b
theorem OwL.mls {B : Nat} {w : World} {v : Value} {l : List Ml} {xs : List Mx} (h : OwL kMl B w v l xs) (hs : ∀ m ∈ l, SmM m) : RdL kMl w v l xs :=
  h.rd (fun _ m _ hi _ ho => ⟨OM.rd ho (hs m (List.mem_of_getElem? hi)), hs m (List.mem_of_getElem? hi)⟩)
theorem OwL.bxs {B : Nat} {w : World} {v : Value} {l : List Bx} {xs : List (Value × List Mx)} (h : OwL kBx B w v l xs) (hs : ∀ b ∈ l, SmB b) : RdL kBx w v l xs :=
  h.rd (fun _ b _ hi _ ho => ⟨OwL.mls ho (hs b (List.mem_of_getElem? hi)).m, hs b (List.mem_of_getElem? hi)⟩)
theorem RdL.get {α ξ : Type} {K : EK α ξ} {w : World} {a : Option Addr} {n cap : Nat} {l : List α} {xs : List ξ} (h : RdL K w (.slice a n cap) l xs) {i : Nat} {b : α} (hi : l[i]? = some b) : ∃ g o x, a = some ⟨g, o, none⟩ ∧ xs[i]? = some x ∧ K.R w b x ∧ ∀ j u, (K.C b x)[j]? = some u → w.cell? ⟨g, o + i * K.c + j, none⟩ = some u := by
  have hil : i < xs.length := by rw [h.xl]; exact (List.getElem?_eq_some_iff.1 hi).1
  have hx : xs[i]? = some xs[i] := List.getElem?_eq_getElem hil
  obtain ⟨a', cap', hv, hc⟩ := h.form
  cases hv
  rcases hc with hc | ⟨g, o, rfl, hc⟩
  · rw [hc] at hi; simp at hi
  · exact ⟨g, o, xs[i], rfl, hx, h.el i b _ hi hx, fun j u hj => by rw [Nat.add_assoc]; exact hc _ _ (cellK_get hi hx hj)⟩
end Go.Proofs.YtgmlkofogeoocaaGreatDoor

/- The library's slices.Clone, at mails and boxes. -/
namespace Go.Proofs.YtgmlkofogeoocaaGreatDoor
open Go.RowKit Go.Maps
theorem infoKMail : (Tryz.prog.info? 50).map (fun i => (i.zero, i.size, i.bytes)) = some (some (.agg ml0), 30, 336) := by kernel_rfl
set_option maxRecDepth 100000 in
set_option maxHeartbeats 4000000 in
theorem cloneMail_any {w : World} {a : Option Addr} {n cap : Nat} {cs : List Value} (hl : cs.length = n * 30) (h1 : ∀ u ∈ cs, u.oneCell' = true) (hn : n ≤ 1073741824) (hc : n = 0 ∨ ∃ g o, a = some ⟨g, o, none⟩ ∧ ∀ j u, cs[j]? = some u → w.cell? ⟨g, o + j, none⟩ = some u) :
    Calls Tryz.prog 66 #[.slice a n cap] w fun e w' => ∃ v', e = .returned v' ∧ w'.ownsRow w.heap.size 50 30 v' n cs ∧ Below w.heap.size w w' := by
  obtain ⟨j0, hj, hy0, hy1, hyb⟩ := info_parts infoKMail
  have hnil := fun (W : World) => Lib.run_eql_slice_nil (P := Tryz.prog) W 67 50 a n cap 0 0 Tryz.underlying67
  cases a with
  | none =>
    have hn0 : n = 0 := by
      rcases hc with c | ⟨g, o, c, _⟩
      · exact c
      · cases c
    subst hn0
    have hcs : cs = [] := List.eq_nil_of_length_eq_zero (by omega)
    subst hcs
    clear hc
    simp only [Option.isNone_none] at hnil ⊢
    go_enter Tryz.func66, Tryz.ntmps66
    go_wp2_with fail
    go_ret
    exact ⟨_, rfl, World.ownsRow_nil _ _ _ _, Below.refl _ _⟩
  | some ad =>
    have hcell : ∀ (W : World), Below w.heap.size w W → ∀ j u, cs[j]? = some u → W.cell? (ad.add j) = some u := by
      intro W hW j u hj
      rcases hc with c | ⟨g, o, c, hc⟩
      · have : cs = [] := List.eq_nil_of_length_eq_zero (by omega)
        subst this; simp at hj
      · simp at c; subst c
        have := hc j u hj
        have e : (⟨g, o, none⟩ : Addr).add j = ⟨g, o + j, none⟩ := by unfold Addr.add; by_cases hz : j = 0 <;> simp [hz]
        rw [e, World.cell?_of_block (w := w) (hW.block _ (lt_of_cell this))]
        exact this
    have hrow := World.ownsRow_made (base := w.heap.size) (e := 50) (size := 30) w #[] 0 (Nat.le_refl _) (by unfold maxLen; omega) rfl
    have HH := hide (And.intro hcell (And.intro h1 (And.intro hn hl)))
    clear hc hcell h1 hl hn
    go_enter Tryz.func66, Tryz.ntmps66
    go_wp2_with (at_builtin; refine wpList_append_own_at _ rfl (.tmp 5) (.tmp 6) 67 rfl w.heap.size 50 j0 (.agg ml0) 30 336 Tryz.underlying67 hj hy0 hy1 hyb rfl (by decide) _ 0 [] rfl hrow ad n cap cs rfl (unhide HH).2.2.2 ((unhide HH).1 _ (bwA _ _)) (unhide HH).2.1 ?c3 ?c4 ?c5 ?nx)
    case c3 => have := (unhide HH).2.2.1; unfold maxLen; omega
    case c4 => have := (unhide HH).2.2.1; omega
    case c5 => simp
    case nx =>
      intro v' w3 hown' hgrow _ hat
      have hb3 : Below w.heap.size w w3 := (bwA w _).grown hgrow (by simp) (fun k hk => by simp [Value.ownBlock] at hk; omega)
      have hown2 : w3.ownsRow w.heap.size 50 30 v' n cs := by simpa using hown'
      have HO := hide (And.intro hown2 hb3)
      clear hown' hgrow hat hown2 hb3
      go_wp2_with fail
      go_ret
      exact ⟨_, rfl, (unhide HO).1, (unhide HO).2⟩
theorem infoKBox : (Tryz.prog.info? 69).map (fun i => (i.zero, i.size, i.bytes)) = some (some (.agg #[.int .i64 0, .bool false, .slice none 0 0, .int .i64 0]), 4, 48) := by kernel_rfl
set_option maxRecDepth 100000 in
set_option maxHeartbeats 4000000 in
theorem cloneBox_any {w : World} {a : Option Addr} {n cap : Nat} {cs : List Value} (hl : cs.length = n * 4) (h1 : ∀ u ∈ cs, u.oneCell' = true) (hn : n ≤ 1073741824) (hc : n = 0 ∨ ∃ g o, a = some ⟨g, o, none⟩ ∧ ∀ j u, cs[j]? = some u → w.cell? ⟨g, o + j, none⟩ = some u) :
    Calls Tryz.prog 42 #[.slice a n cap] w fun e w' => ∃ v', e = .returned v' ∧ w'.ownsRow w.heap.size 69 4 v' n cs ∧ Below w.heap.size w w' := by
  obtain ⟨j0, hj, hy0, hy1, hyb⟩ := info_parts infoKBox
  have hnil := fun (W : World) => Lib.run_eql_slice_nil (P := Tryz.prog) W 27 69 a n cap 0 0 Tryz.underlying27
  cases a with
  | none =>
    have hn0 : n = 0 := by
      rcases hc with c | ⟨g, o, c, _⟩
      · exact c
      · cases c
    subst hn0
    have hcs : cs = [] := List.eq_nil_of_length_eq_zero (by omega)
    subst hcs
    clear hc
    simp only [Option.isNone_none] at hnil ⊢
    go_enter Tryz.func42, Tryz.ntmps42
    go_wp2_with fail
    go_ret
    exact ⟨_, rfl, World.ownsRow_nil _ _ _ _, Below.refl _ _⟩
  | some ad =>
    have hcell : ∀ (W : World), Below w.heap.size w W → ∀ j u, cs[j]? = some u → W.cell? (ad.add j) = some u := by
      intro W hW j u hj
      rcases hc with c | ⟨g, o, c, hc⟩
      · have : cs = [] := List.eq_nil_of_length_eq_zero (by omega)
        subst this; simp at hj
      · simp at c; subst c
        have := hc j u hj
        have e : (⟨g, o, none⟩ : Addr).add j = ⟨g, o + j, none⟩ := by unfold Addr.add; by_cases hz : j = 0 <;> simp [hz]
        rw [e, World.cell?_of_block (w := w) (hW.block _ (lt_of_cell this))]
        exact this
    have hrow := World.ownsRow_made (base := w.heap.size) (e := 69) (size := 4) w #[] 0 (Nat.le_refl _) (by unfold maxLen; omega) rfl
    have HH := hide (And.intro hcell (And.intro h1 (And.intro hn hl)))
    clear hc hcell h1 hl hn
    go_enter Tryz.func42, Tryz.ntmps42
    go_wp2_with (at_builtin; refine wpList_append_own_at _ rfl (.tmp 5) (.tmp 6) 27 rfl w.heap.size 69 j0 (.agg #[.int .i64 0, .bool false, .slice none 0 0, .int .i64 0]) 4 48 Tryz.underlying27 hj hy0 hy1 hyb rfl (by decide) _ 0 [] rfl hrow ad n cap cs rfl (unhide HH).2.2.2 ((unhide HH).1 _ (bwA _ _)) (unhide HH).2.1 ?c3 ?c4 ?c5 ?nx)
    case c3 => have := (unhide HH).2.2.1; unfold maxLen; omega
    case c4 => have := (unhide HH).2.2.1; omega
    case c5 => simp
    case nx =>
      intro v' w3 hown' hgrow _ hat
      have hb3 : Below w.heap.size w w3 := (bwA w _).grown hgrow (by simp) (fun k hk => by simp [Value.ownBlock] at hk; omega)
      have hown2 : w3.ownsRow w.heap.size 69 4 v' n cs := by simpa using hown'
      have HO := hide (And.intro hown2 hb3)
      clear hown' hgrow hat hown2 hb3
      go_wp2_with fail
      go_ret
      exact ⟨_, rfl, (unhide HO).1, (unhide HO).2⟩
end Go.Proofs.YtgmlkofogeoocaaGreatDoor
