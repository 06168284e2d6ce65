/- Texts joined: LgL LgKCommit LgM. -/
import Derived.Test.YthlbdajnkdkocaaDoorZ13
import Derived.Deep.RegionLaw
import Derived.Test.YthlbdajnkdkocaaDoorZ04
/- A tree's copy; commits of one's own; a commit's copy (fresh.Tree, fresh.Commit). -/
namespace Go.Proofs.YthlbdajnkdkocaaDoor
open Go.RowKit Go.Maps
set_option maxRecDepth 100000 in
set_option maxHeartbeats 4000000 in
theorem frTree_any {w : World} {v : Value} {T : List Nd} (h : Trd w v T) (hl : T.length ≤ 1073741824) (hu : ∀ n ∈ T, n.un.length ≤ 1073741824) :
    Calls Tryd.prog 51 #[.agg #[v]] w fun e w' => ∃ v' us, e = .returned (.agg #[v']) ∧ OTr w.heap.size w' v' T us ∧ Below w.heap.size w w' := by
  obtain ⟨w0, hw0⟩ : ∃ w0, w0 = (w.alloc (.cells #[v] 29)).alloc (.cells #[.slice none 0 0] 29) := ⟨_, rfl⟩
  have s0 : TwoB w w0 29 #[v] #[.slice none 0 0] := by rw [hw0]; exact TwoB.start _ _ _ _
  obtain ⟨us, hr⟩ := (h.bw s0.bel).rdl hu
  have KL := hide (listNode_any hr hl)
  obtain ⟨a, c, rfl⟩ := h.slice
  have S0 := hide s0
  have HW := hide hw0
  clear h hl hu hr s0 hw0
  generalize T.length = N at *
  go_enter Tryd.func51, Tryd.ntmps51
  go_upto_region 1 with fail
  rw [← unhide HW]
  clear HW
  have c0 : w0.cell? ⟨w.heap.size, 0, none⟩ = some (.slice a N c) := blk_c (unhide S0).k1 rfl
  go_wp2_with fail
  refine (unhide KL).mono ?_
  rintro e w1 ⟨v', us', rfl, ho, b1⟩
  obtain ⟨a', c', hv⟩ := own_slice ho.row
  have s1 := (unhide S0).bw b1
  have an := s1.answer [v'] rfl
  obtain ⟨WZ, hWZ⟩ : ∃ W, W = pokes w1 (w.heap.size + 1) 0 [v'] := ⟨_, rfl⟩
  rw [← hWZ] at an
  have HO : Hid (OTr w.heap.size WZ v' T us' ∧ Below w.heap.size w WZ) := by
    refine ⟨((ho.keep (fun k hk => an.2.2 k ?_)).mono ?_).otr, an.2.1⟩
    · have h1 := (ho.lt k hk).1
      have h2 := (unhide S0).two
      omega
    · have h2 := (unhide S0).two; omega
  subst hv
  have e0 : w1.cell? ⟨w.heap.size + 1, 0, none⟩ = some (.slice none 0 0) := blk_c s1.k2 rfl
  have fe := fun j => froz_b' (i := j) s1.k2
  have z0 : WZ.cell? ⟨w.heap.size + 1, 0, none⟩ = some (.slice a' T.length c') := blk_c an.1 rfl
  have HZ : Hid (WZ = w1.setCell ⟨w.heap.size + 1, 0, none⟩ (.slice a' T.length c')) := hWZ
  clear S0 KL ho b1 s1 an hWZ
  go_wp2_with fail
  rw [← unhide HZ]
  exact bodyPost_ret (v := .agg #[.slice a' T.length c']) (by simp [results, Tryd.results51, go_sem, z0]) rfl ⟨_, us', rfl, (unhide HO).1, (unhide HO).2⟩
structure SmC (c : Cm) : Prop where
  a : c.adds.length ≤ 1073741824
  r : c.rem.length ≤ 1073741824
  q : c.seals.length ≤ 1073741824
  j : c.joins.length ≤ 1073741824
  n : c.next.length ≤ 1073741824
  u : ∀ n ∈ c.next, n.un.length ≤ 1073741824
  fa : ∀ x ∈ c.adds, x.length = 3 ∧ ∀ z ∈ x, -9223372036854775808 ≤ z ∧ z ≤ 9223372036854775807
  fq : ∀ x ∈ c.seals, x.length = 3 ∧ ∀ z ∈ x, -9223372036854775808 ≤ z ∧ z ≤ 9223372036854775807
  fj : ∀ x ∈ c.joins, x.length = 2 ∧ ∀ z ∈ x, -9223372036854775808 ≤ z ∧ z ≤ 9223372036854775807
structure OC (B : Nat) (w : World) (c : Cm) (x : Cv) (us : List Value) : Prop where
  adds : w.ownsRow B 86 3 x.av c.adds.length (riC c.adds)
  rem : Ints B w x.rv c.rem
  seals : w.ownsRow B 89 3 x.qv c.seals.length (riC c.seals)
  joins : w.ownsRow B 92 2 x.jv c.joins.length (riC c.joins)
  next : OTr B w x.nv c.next us
  ap : ∀ (i : Nat) (u : Value) (k : Nat), us[i]? = some u → u.ownBlock = some k → x.rv.ownBlock ≠ some k
def cvZ (x : Cv) (us : List Value) : List Nat := x.av.ownBlock.toList ++ (x.rv.ownBlock.toList ++ (x.qv.ownBlock.toList ++ (x.jv.ownBlock.toList ++ zK kNd x.nv us)))
theorem cvZ_cases {x : Cv} {us : List Value} {k : Nat} (h : k ∈ cvZ x us) : x.av.ownBlock = some k ∨ x.rv.ownBlock = some k ∨ x.qv.ownBlock = some k ∨ x.jv.ownBlock = some k ∨ k ∈ zK kNd x.nv us := by
  simpa [cvZ] using h
theorem ri_own {B c : Nat} {w : World} {t : TypeId} {v : Value} {l : List (List Int)} (h : w.ownsRow B t c v l.length (riC l)) (hl : l.length ≤ 1073741824) (hf : ∀ x ∈ l, x.length = c ∧ ∀ z ∈ x, -9223372036854775808 ≤ z ∧ z ≤ 9223372036854775807) : RI c w v l := by
  refine ⟨by omega, hf, ?_⟩
  obtain ⟨a, cap, hv⟩ := own_slice h
  refine ⟨a, cap, hv, ?_⟩
  rcases Nat.eq_zero_or_pos l.length with h0 | h0
  · exact Or.inl (List.eq_nil_of_length_eq_zero h0)
  · obtain ⟨g, cap', hv', _, _, _⟩ := own_open h h0
    rw [hv] at hv'; cases hv'
    refine Or.inr ⟨g, 0, rfl, fun i x hi j z hj => ?_⟩
    have hR : ∀ r ∈ l.map (·.map I64), r.length = c := fun r hr => by
      obtain ⟨x, hx, rfl⟩ := List.mem_map.1 hr
      rw [List.length_map]; exact (hf x hx).1
    have hjc : j < c := by have := (List.getElem?_eq_some_iff.1 hj).1; rw [(hf x (List.mem_of_getElem? hi)).1] at this; exact this
    rw [Nat.zero_add]
    refine own_cell h (by rw [hv]; rfl) ?_
    unfold riC
    rw [fl_get hR hjc, List.getElem?_map, hi]
    simp only [Option.map_some, Option.bind_some, List.getElem?_map, hj]
    rfl
theorem OC.rd {B : Nat} {w : World} {c : Cm} {x : Cv} {us : List Value} (h : OC B w c x us) (hs : SmC c) : CmR w c x :=
  ⟨ri_own h.adds hs.a hs.fa, h.rem.nums, Nat.le_trans hs.r (by decide), ri_own h.seals hs.q hs.fq, ri_own h.joins hs.j hs.fj, h.next.trd (Nat.le_trans hs.n (by decide)) (fun n hn => Nat.le_trans (hs.u n hn) (by decide))⟩
theorem OC.keep {B : Nat} {w w' : World} {c : Cm} {x : Cv} {us : List Value} (h : OC B w c x us) (hk : ∀ k ∈ cvZ x us, w'.heap[k]? = w.heap[k]?) : OC B w' c x us :=
  ⟨own_keep h.adds (fun k hq => hk k (by simp [cvZ, hq])), own_keep h.rem (fun k hq => hk k (by simp [cvZ, hq])), own_keep h.seals (fun k hq => hk k (by simp [cvZ, hq])), own_keep h.joins (fun k hq => hk k (by simp [cvZ, hq])), (h.next.owl.keep (fun k hq => hk k (by simp [cvZ, hq]))).otr, h.ap⟩
theorem OC.lt {B : Nat} {w : World} {c : Cm} {x : Cv} {us : List Value} (h : OC B w c x us) : ∀ k ∈ cvZ x us, B ≤ k ∧ k < w.heap.size := by
  intro k hk
  rcases cvZ_cases hk with q | q | q | q | q
  · exact World.ownsRow.lt h.adds k q
  · exact World.ownsRow.lt h.rem k q
  · exact World.ownsRow.lt h.seals k q
  · exact World.ownsRow.lt h.joins k q
  · exact h.next.owl.lt k q
theorem OC.mono {B B' : Nat} {w : World} {c : Cm} {x : Cv} {us : List Value} (h : OC B w c x us) (hB : B' ≤ B) : OC B' w c x us :=
  ⟨own_mono h.adds hB, h.rem.mono hB, own_mono h.seals hB, own_mono h.joins hB, (h.next.owl.mono hB).otr, h.ap⟩
def kCm : EK Cm (Cv × List Value) where
  t := 31
  c := 15
  C := fun c x => cmC c x.1
  Z := fun x => cvZ x.1 x.2
  R := fun w c x => CmR w c x.1 ∧ SmC c
  O := fun B w c x => OC B w c x.1 x.2
  pos := by decide
  Cl := fun _ _ => rfl
  one := fun w c x h v hv => by
    obtain ⟨a1, k1, e1⟩ := h.1.adds.slice
    obtain ⟨a2, k2, e2⟩ := nums_slice h.1.rem
    obtain ⟨a3, k3, e3⟩ := h.1.seals.slice
    obtain ⟨a4, k4, e4⟩ := h.1.joins.slice
    obtain ⟨a5, k5, e5⟩ := h.1.next.slice
    simp only [cmC, e1, e2, e3, e4, e5, List.mem_cons, List.not_mem_nil, or_false] at hv
    rcases hv with rfl | rfl | rfl | rfl | rfl | rfl | rfl | rfl | rfl | rfl | rfl | rfl | rfl | rfl | rfl <;> rfl
  bw := fun w w' c x h hb => ⟨h.1.bw hb, h.2⟩
  keep := fun B w w' c x h hk => OC.keep h hk
  lt := fun B w c x h => OC.lt h
  mono := fun B B' w c x h hB => OC.mono h hB
theorem cloneRIAdd_any {w : World} {v : Value} {l : List (List Int)} (h : RI 3 w v l) (hl : l.length ≤ 1073741824) :
    Calls Tryd.prog 47 #[v] w fun e w' => ∃ a cap, e = .returned (.slice a l.length cap) ∧ w'.ownsRow w.heap.size 86 3 (.slice a l.length cap) l.length (riC l) ∧ Below w.heap.size w w' := by
  obtain ⟨h1, h2, a, cap, rfl, hc⟩ := ri_src (by decide) h
  refine (cloneAdd_any h1 h2 hl hc).mono ?_
  rintro e w' ⟨v', rfl, ho, hb⟩
  obtain ⟨a', c', rfl⟩ := own_slice ho
  exact ⟨a', c', rfl, ho, hb⟩
theorem cloneRISeal_any {w : World} {v : Value} {l : List (List Int)} (h : RI 3 w v l) (hl : l.length ≤ 1073741824) :
    Calls Tryd.prog 49 #[v] w fun e w' => ∃ a cap, e = .returned (.slice a l.length cap) ∧ w'.ownsRow w.heap.size 89 3 (.slice a l.length cap) l.length (riC l) ∧ Below w.heap.size w w' := by
  obtain ⟨h1, h2, a, cap, rfl, hc⟩ := ri_src (by decide) h
  refine (cloneSeal_any h1 h2 hl hc).mono ?_
  rintro e w' ⟨v', rfl, ho, hb⟩
  obtain ⟨a', c', rfl⟩ := own_slice ho
  exact ⟨a', c', rfl, ho, hb⟩
theorem cloneRIJoin_any {w : World} {v : Value} {l : List (List Int)} (h : RI 2 w v l) (hl : l.length ≤ 1073741824) :
    Calls Tryd.prog 50 #[v] w fun e w' => ∃ a cap, e = .returned (.slice a l.length cap) ∧ w'.ownsRow w.heap.size 92 2 (.slice a l.length cap) l.length (riC l) ∧ Below w.heap.size w w' := by
  obtain ⟨h1, h2, a, cap, rfl, hc⟩ := ri_src (by decide) h
  refine (cloneJoin_any h1 h2 hl hc).mono ?_
  rintro e w' ⟨v', rfl, ho, hb⟩
  obtain ⟨a', c', rfl⟩ := own_slice ho
  exact ⟨a', c', rfl, ho, hb⟩
theorem cloneNm_any {w : World} {v : Value} {l : List Int} (h : Nums w v l) (hl : l.length ≤ 1073741824) :
    Calls Tryd.prog 48 #[v] w fun e w' => ∃ a cap, e = .returned (.slice a l.length cap) ∧ Ints w.heap.size w' (.slice a l.length cap) l ∧ Below w.heap.size w w' := by
  refine (cloneNums_any h hl).mono ?_
  rintro e w' ⟨v', rfl, ho, hb⟩
  obtain ⟨a', c', rfl⟩ := own_slice ho
  exact ⟨a', c', rfl, ho, hb⟩
set_option maxRecDepth 100000 in
set_option maxHeartbeats 16000000 in
theorem frCommit_any {w : World} {c : Cm} {x : Cv} (h : CmR w c x) (hs : SmC c) :
    Calls Tryd.prog 26 #[cmV c x] w fun e w' => ∃ x' us, e = .returned (cmV c x') ∧ OC w.heap.size w' c x' us ∧ Below w.heap.size w w' := by
  obtain ⟨w0, hw0⟩ : ∃ w0, w0 = (w.alloc (.cells (cmC c x).toArray 31)).alloc (.cells cm0 31) := ⟨_, rfl⟩
  have s0 : TwoB w w0 31 (cmC c x).toArray cm0 := by rw [hw0]; exact TwoB.start _ _ _ _
  have KA1 : Hid (∀ W, Below w.heap.size w W → Calls Tryd.prog 47 #[x.av] W fun e w' => ∃ a cap, e = .returned (.slice a c.adds.length cap) ∧ w'.ownsRow W.heap.size 86 3 (.slice a c.adds.length cap) c.adds.length (riC c.adds) ∧ Below W.heap.size W w') := fun W hW => cloneRIAdd_any (h.adds.bw hW) hs.a
  have KA2 : Hid (∀ W, Below w.heap.size w W → Calls Tryd.prog 48 #[x.rv] W fun e w' => ∃ a cap, e = .returned (.slice a c.rem.length cap) ∧ w'.ownsRow W.heap.size 3 1 (.slice a c.rem.length cap) c.rem.length (c.rem.map I64) ∧ Below W.heap.size W w') := fun W hW => cloneNm_any (h.rem.bw hW) hs.r
  have KA3 : Hid (∀ W, Below w.heap.size w W → Calls Tryd.prog 49 #[x.qv] W fun e w' => ∃ a cap, e = .returned (.slice a c.seals.length cap) ∧ w'.ownsRow W.heap.size 89 3 (.slice a c.seals.length cap) c.seals.length (riC c.seals) ∧ Below W.heap.size W w') := fun W hW => cloneRISeal_any (h.seals.bw hW) hs.q
  have KA4 : Hid (∀ W, Below w.heap.size w W → Calls Tryd.prog 50 #[x.jv] W fun e w' => ∃ a cap, e = .returned (.slice a c.joins.length cap) ∧ w'.ownsRow W.heap.size 92 2 (.slice a c.joins.length cap) c.joins.length (riC c.joins) ∧ Below W.heap.size W w') := fun W hW => cloneRIJoin_any (h.joins.bw hW) hs.j
  have KA5 : Hid (∀ W, Below w.heap.size w W → Calls Tryd.prog 51 #[.agg #[x.nv]] W fun e w' => ∃ v' us, e = .returned (.agg #[v']) ∧ OTr W.heap.size w' v' c.next us ∧ Below W.heap.size W w') := fun W hW => frTree_any (h.next.bw hW) hs.n hs.u
  obtain ⟨a1, k1, e1⟩ := h.adds.slice
  obtain ⟨a2, k2, e2⟩ := nums_slice h.rem
  obtain ⟨a3, k3, e3⟩ := h.seals.slice
  obtain ⟨a4, k4, e4⟩ := h.joins.slice
  obtain ⟨a5, k5, e5⟩ := h.next.slice
  clear h hs
  obtain ⟨g0, g1, g2, g3, g4, g5, adds, rem, seals, joins, g10, g11, next, g13, g14⟩ := c
  obtain ⟨av, rv, qv, jv, nv⟩ := x
  simp only at KA1 KA2 KA3 KA4 KA5 e1 e2 e3 e4 e5
  obtain ⟨LN, hLN⟩ : ∃ z, z = next.length := ⟨_, rfl⟩
  obtain ⟨LA, hLA⟩ : ∃ z, z = adds.length := ⟨_, rfl⟩
  obtain ⟨LR, hLR⟩ : ∃ z, z = rem.length := ⟨_, rfl⟩
  obtain ⟨LQ, hLQ⟩ : ∃ z, z = seals.length := ⟨_, rfl⟩
  obtain ⟨LJ, hLJ⟩ : ∃ z, z = joins.length := ⟨_, rfl⟩
  rw [← hLA] at KA1 e1
  rw [← hLR] at KA2 e2
  rw [← hLQ] at KA3 e3
  rw [← hLJ] at KA4 e4
  rw [← hLN] at e5
  subst e1 e2 e3 e4 e5
  have HW : Hid (w0 = (w.alloc (.cells #[.int .i64 g0, .int .i64 g1, .int .i64 g2, .int .i64 g3, .int .i64 g4, .bool g5, .slice a1 LA k1, .slice a2 LR k2, .slice a3 LQ k3, .slice a4 LJ k4, .int .i64 g10, .int .i64 g11, .slice a5 LN k5, .int .i64 g13, .int .i64 g14] 31)).alloc (.cells #[.int .i64 0, .int .i64 0, .int .i64 0, .int .i64 0, .int .i64 0, .bool false, .slice none 0 0, .slice none 0 0, .slice none 0 0, .slice none 0 0, .int .i64 0, .int .i64 0, .slice none 0 0, .int .i64 0, .int .i64 0] 31)) := hw0
  have S0 : Hid (TwoB w w0 31 #[.int .i64 g0, .int .i64 g1, .int .i64 g2, .int .i64 g3, .int .i64 g4, .bool g5, .slice a1 LA k1, .slice a2 LR k2, .slice a3 LQ k3, .slice a4 LJ k4, .int .i64 g10, .int .i64 g11, .slice a5 LN k5, .int .i64 g13, .int .i64 g14] cm0) := s0
  have HN := hide (And.intro hLN (And.intro hLA (And.intro hLR (And.intro hLQ hLJ))))
  unfold cmV cmC
  clear hw0 s0 hLN hLA hLR hLQ hLJ
  go_enter Tryd.func26, Tryd.ntmps26
  go_upto_region 1 with fail
  rw [← unhide HW]
  clear HW
  go_cut [] from 3 to 10 (fun wx => ∃ a1' k1' a2' k2', Hid (TwoB w wx 31 #[.int .i64 g0, .int .i64 g1, .int .i64 g2, .int .i64 g3, .int .i64 g4, .bool g5, .slice a1' LA k1', .slice a2' LR k2', .slice a3 LQ k3, .slice a4 LJ k4, .int .i64 g10, .int .i64 g11, .slice a5 LN k5, .int .i64 g13, .int .i64 g14] cm0 ∧ wx.ownsRow (w.heap.size + 2) 86 3 (.slice a1' LA k1') LA (riC adds) ∧ wx.ownsRow (w.heap.size + 2) 3 1 (.slice a2' LR k2') LR (rem.map I64)))
  case first =>
    have x1 : w0.drew.cell? ⟨w.heap.size, 6, none⟩ = some (.slice a1 LA k1) := blk_c (unhide S0).k1 rfl
    have x2 : w0.drew.cell? ⟨w.heap.size, 7, none⟩ = some (.slice a2 LR k2) := blk_c (unhide S0).k1 rfl
    have KA := hide (unhide KA1 w0.drew (unhide S0).bel.drew)
    go_region_law (go_simp; go_wp2_with (first
      | (go_at_call 47; refine (unhide KA).mono ?_; rintro e_ zz ⟨a1', k1', rfl, ho1, b1⟩; have T1 := hide (((unhide S0).bw (Below.refl _ _).drew).bw b1); have y1 : zz.cell? ⟨w.heap.size, 6, none⟩ = some (.slice a1 LA k1) := blk_c (unhide T1).k1 rfl; have y2 : zz.cell? ⟨w.heap.size, 7, none⟩ = some (.slice a2 LR k2) := blk_c (unhide T1).k1 rfl; have KB := hide (unhide KA2 zz (unhide T1).bel); have HO1 := hide (And.intro ho1 b1); clear ho1 b1)
      | (go_at_call 48; refine (unhide KB).mono ?_; rintro e_ z2 ⟨a2', k2', rfl, ho2, b2⟩; have T2 := hide ((unhide T1).bw b2); have u1 : z2.cell? ⟨w.heap.size, 6, none⟩ = some (.slice a1 LA k1) := blk_c (unhide T2).k1 rfl; have u2 : z2.cell? ⟨w.heap.size, 7, none⟩ = some (.slice a2 LR k2) := blk_c (unhide T2).k1 rfl; have fz := fun j => froz_b' (i := j) (unhide T2).k1; have HO2 := hide (And.intro ho2 b2); clear ho2 b2)))
    all_goals
      have HR : Hid (TwoB w ((z2.setCell ⟨w.heap.size, 6, none⟩ (.slice a1' LA k1')).setCell ⟨w.heap.size, 7, none⟩ (.slice a2' LR k2')) 31 #[.int .i64 g0, .int .i64 g1, .int .i64 g2, .int .i64 g3, .int .i64 g4, .bool g5, .slice a1' LA k1', .slice a2' LR k2', .slice a3 LQ k3, .slice a4 LJ k4, .int .i64 g10, .int .i64 g11, .slice a5 LN k5, .int .i64 g13, .int .i64 g14] cm0 ∧ ((z2.setCell ⟨w.heap.size, 6, none⟩ (.slice a1' LA k1')).setCell ⟨w.heap.size, 7, none⟩ (.slice a2' LR k2')).ownsRow (w.heap.size + 2) 86 3 (.slice a1' LA k1') LA (riC adds) ∧ ((z2.setCell ⟨w.heap.size, 6, none⟩ (.slice a1' LA k1')).setCell ⟨w.heap.size, 7, none⟩ (.slice a2' LR k2')).ownsRow (w.heap.size + 2) 3 1 (.slice a2' LR k2') LR (rem.map I64)) := by
        have p1 := (unhide T2).poke 6 (.slice a1' LA k1')
        have p2 := p1.1.poke 7 (.slice a2' LR k2')
        have h2 := (unhide S0).two
        have hs1 : w.heap.size + 2 ≤ zz.heap.size := (unhide T1).two
        have kp : ∀ k, w.heap.size + 2 ≤ k → ((z2.setCell ⟨w.heap.size, 6, none⟩ (.slice a1' LA k1')).setCell ⟨w.heap.size, 7, none⟩ (.slice a2' LR k2')).heap[k]? = z2.heap[k]? := fun k hk => by rw [p2.2 k hk, p1.2 k hk]
        have kb : ∀ k, w.heap.size + 2 ≤ k → k < zz.heap.size → ((z2.setCell ⟨w.heap.size, 6, none⟩ (.slice a1' LA k1')).setCell ⟨w.heap.size, 7, none⟩ (.slice a2' LR k2')).heap[k]? = zz.heap[k]? := fun k hk hk2 => by rw [kp k hk]; exact (unhide HO2).2.block k hk2
        have o1 := own_mono (unhide HO1).1 (show w.heap.size + 2 ≤ _ from h2)
        have o2 := own_mono (unhide HO2).1 hs1
        exact ⟨p2.1, own_keep o1 (fun k hk => kb k (World.ownsRow.lt o1 k hk).1 (World.ownsRow.lt o1 k hk).2), own_keep o2 (fun k hk => kp k (World.ownsRow.lt o2 k hk).1)⟩
      go_wp2_with fail
      go_meet
      case rel => exact ⟨_, _, _, _, HR⟩
  case rest =>
  obtain ⟨a1', k1', a2', k2', hcut⟩ := hcut
  have S0n := hcut
  clear hcut KA1 KA2 S0
  obtain ⟨wd, hwd⟩ : ∃ wd, wd = wc := ⟨_, rfl⟩
  rw [← hwd]
  have S0 := hide (by rw [← hwd] at S0n; exact (unhide S0n).1)
  have R1 := hide (by rw [← hwd] at S0n; exact (unhide S0n).2)
  clear hwd S0n
  go_upto_region 2 with fail

  go_cut [] from 11 to 18 (fun wx => ∃ a3' k3' a4' k4', Hid (TwoB w wx 31 #[.int .i64 g0, .int .i64 g1, .int .i64 g2, .int .i64 g3, .int .i64 g4, .bool g5, .slice a1' LA k1', .slice a2' LR k2', .slice a3' LQ k3', .slice a4' LJ k4', .int .i64 g10, .int .i64 g11, .slice a5 LN k5, .int .i64 g13, .int .i64 g14] cm0 ∧ wx.ownsRow (w.heap.size + 2) 86 3 (.slice a1' LA k1') LA (riC adds) ∧ wx.ownsRow (w.heap.size + 2) 3 1 (.slice a2' LR k2') LR (rem.map I64) ∧ wx.ownsRow (w.heap.size + 2) 89 3 (.slice a3' LQ k3') LQ (riC seals) ∧ wx.ownsRow (w.heap.size + 2) 92 2 (.slice a4' LJ k4') LJ (riC joins)))
  case first =>
    have x1 : wd.drew.cell? ⟨w.heap.size, 8, none⟩ = some (.slice a3 LQ k3) := blk_c (unhide S0).k1 rfl
    have x2 : wd.drew.cell? ⟨w.heap.size, 9, none⟩ = some (.slice a4 LJ k4) := blk_c (unhide S0).k1 rfl
    have KA := hide (unhide KA3 wd.drew (unhide S0).bel.drew)
    go_region_law (go_simp; go_wp2_with (first
      | (go_at_call 49; refine (unhide KA).mono ?_; rintro e_ zz ⟨a3', k3', rfl, ho1, b1⟩; have T1 := hide (((unhide S0).bw (Below.refl _ _).drew).bw b1); have y1 : zz.cell? ⟨w.heap.size, 8, none⟩ = some (.slice a3 LQ k3) := blk_c (unhide T1).k1 rfl; have y2 : zz.cell? ⟨w.heap.size, 9, none⟩ = some (.slice a4 LJ k4) := blk_c (unhide T1).k1 rfl; have KB := hide (unhide KA4 zz (unhide T1).bel); have HO1 := hide (And.intro ho1 b1); clear ho1 b1)
      | (go_at_call 50; refine (unhide KB).mono ?_; rintro e_ z2 ⟨a4', k4', rfl, ho2, b2⟩; have T2 := hide ((unhide T1).bw b2); have u1 : z2.cell? ⟨w.heap.size, 8, none⟩ = some (.slice a3 LQ k3) := blk_c (unhide T2).k1 rfl; have u2 : z2.cell? ⟨w.heap.size, 9, none⟩ = some (.slice a4 LJ k4) := blk_c (unhide T2).k1 rfl; have fz := fun j => froz_b' (i := j) (unhide T2).k1; have HO2 := hide (And.intro ho2 b2); clear ho2 b2)))
    all_goals
      have HR : Hid (TwoB w ((z2.setCell ⟨w.heap.size, 8, none⟩ (.slice a3' LQ k3')).setCell ⟨w.heap.size, 9, none⟩ (.slice a4' LJ k4')) 31 #[.int .i64 g0, .int .i64 g1, .int .i64 g2, .int .i64 g3, .int .i64 g4, .bool g5, .slice a1' LA k1', .slice a2' LR k2', .slice a3' LQ k3', .slice a4' LJ k4', .int .i64 g10, .int .i64 g11, .slice a5 LN k5, .int .i64 g13, .int .i64 g14] cm0 ∧ ((z2.setCell ⟨w.heap.size, 8, none⟩ (.slice a3' LQ k3')).setCell ⟨w.heap.size, 9, none⟩ (.slice a4' LJ k4')).ownsRow (w.heap.size + 2) 86 3 (.slice a1' LA k1') LA (riC adds) ∧ ((z2.setCell ⟨w.heap.size, 8, none⟩ (.slice a3' LQ k3')).setCell ⟨w.heap.size, 9, none⟩ (.slice a4' LJ k4')).ownsRow (w.heap.size + 2) 3 1 (.slice a2' LR k2') LR (rem.map I64) ∧ ((z2.setCell ⟨w.heap.size, 8, none⟩ (.slice a3' LQ k3')).setCell ⟨w.heap.size, 9, none⟩ (.slice a4' LJ k4')).ownsRow (w.heap.size + 2) 89 3 (.slice a3' LQ k3') LQ (riC seals) ∧ ((z2.setCell ⟨w.heap.size, 8, none⟩ (.slice a3' LQ k3')).setCell ⟨w.heap.size, 9, none⟩ (.slice a4' LJ k4')).ownsRow (w.heap.size + 2) 92 2 (.slice a4' LJ k4') LJ (riC joins)) := by
        have p1 := (unhide T2).poke 8 (.slice a3' LQ k3')
        have p2 := p1.1.poke 9 (.slice a4' LJ k4')
        have h2 := (unhide S0).two
        have hs1 : w.heap.size + 2 ≤ zz.heap.size := (unhide T1).two
        have kp : ∀ k, w.heap.size + 2 ≤ k → ((z2.setCell ⟨w.heap.size, 8, none⟩ (.slice a3' LQ k3')).setCell ⟨w.heap.size, 9, none⟩ (.slice a4' LJ k4')).heap[k]? = z2.heap[k]? := fun k hk => by rw [p2.2 k hk, p1.2 k hk]
        have kb : ∀ k, w.heap.size + 2 ≤ k → k < zz.heap.size → ((z2.setCell ⟨w.heap.size, 8, none⟩ (.slice a3' LQ k3')).setCell ⟨w.heap.size, 9, none⟩ (.slice a4' LJ k4')).heap[k]? = zz.heap[k]? := fun k hk hk2 => by rw [kp k hk]; exact (unhide HO2).2.block k hk2
        have o1 := own_mono (unhide HO1).1 (show w.heap.size + 2 ≤ _ from h2)
        have o2 := own_mono (unhide HO2).1 hs1
        exact ⟨p2.1, (by
          have q := (unhide R1).1
          exact own_keep q (fun k hk => by have h9 := World.ownsRow.lt q k hk; rw [kb k h9.1 (Nat.lt_of_lt_of_le h9.2 (unhide HO1).2.size)]; exact (unhide HO1).2.block k h9.2)), (by
          have q := (unhide R1).2
          exact own_keep q (fun k hk => by have h9 := World.ownsRow.lt q k hk; rw [kb k h9.1 (Nat.lt_of_lt_of_le h9.2 (unhide HO1).2.size)]; exact (unhide HO1).2.block k h9.2)), own_keep o1 (fun k hk => kb k (World.ownsRow.lt o1 k hk).1 (World.ownsRow.lt o1 k hk).2), own_keep o2 (fun k hk => kp k (World.ownsRow.lt o2 k hk).1)⟩
      go_wp2_with fail
      go_meet
      case rel => exact ⟨_, _, _, _, HR⟩
  case rest =>
  obtain ⟨a3', k3', a4', k4', hcut⟩ := hcut
  have S0n := hcut
  clear hcut KA3 KA4 S0
  obtain ⟨we, hwe⟩ : ∃ we, we = wc := ⟨_, rfl⟩
  rw [← hwe]
  have S0 := hide (by rw [← hwe] at S0n; exact (unhide S0n).1)
  have R2 := hide (by rw [← hwe] at S0n; exact (unhide S0n).2)
  clear hwe S0n R1
  have x12 : we.cell? ⟨w.heap.size, 12, none⟩ = some (.slice a5 LN k5) := blk_c (unhide S0).k1 rfl
  go_wp2_with fail
  refine (unhide KA5 we (unhide S0).bel).mono ?_
  rintro e w1 ⟨v5, us, rfl, ho, b1⟩
  obtain ⟨a5', k5', hv5⟩ := own_slice ho.row
  rw [← (unhide HN).1] at hv5
  subst hv5
  have s1 := (unhide S0).bw b1
  have p1 := s1.poke 12 (.slice a5' LN k5')
  obtain ⟨V1, hV1⟩ : ∃ V, V = w1.setCell ⟨w.heap.size, 12, none⟩ (.slice a5' LN k5') := ⟨_, rfl⟩
  rw [← hV1] at p1
  have s2 : TwoB w V1 31 #[.int .i64 g0, .int .i64 g1, .int .i64 g2, .int .i64 g3, .int .i64 g4, .bool g5, .slice a1' LA k1', .slice a2' LR k2', .slice a3' LQ k3', .slice a4' LJ k4', .int .i64 g10, .int .i64 g11, .slice a5' LN k5', .int .i64 g13, .int .i64 g14] cm0 := p1.1
  have an := s2.answer [.int .i64 g0, .int .i64 g1, .int .i64 g2, .int .i64 g3, .int .i64 g4, .bool g5, .slice a1' LA k1', .slice a2' LR k2', .slice a3' LQ k3', .slice a4' LJ k4', .int .i64 g10, .int .i64 g11, .slice a5' LN k5', .int .i64 g13, .int .i64 g14] rfl
  obtain ⟨WZ, hWZ⟩ : ∃ W, W = pokes V1 (w.heap.size + 1) 0 [.int .i64 g0, .int .i64 g1, .int .i64 g2, .int .i64 g3, .int .i64 g4, .bool g5, .slice a1' LA k1', .slice a2' LR k2', .slice a3' LQ k3', .slice a4' LJ k4', .int .i64 g10, .int .i64 g11, .slice a5' LN k5', .int .i64 g13, .int .i64 g14] := ⟨_, rfl⟩
  rw [← hWZ] at an
  have HO : Hid (OC w.heap.size WZ ⟨g0, g1, g2, g3, g4, g5, adds, rem, seals, joins, g10, g11, next, g13, g14⟩ ⟨.slice a1' LA k1', .slice a2' LR k2', .slice a3' LQ k3', .slice a4' LJ k4', .slice a5' LN k5'⟩ us ∧ Below w.heap.size w WZ) := by
    have h2 := (unhide S0).two
    obtain ⟨q1, q2, q3, q4⟩ := unhide R2
    obtain ⟨hN, hA, hR, hQ, hJ⟩ := unhide HN
    have kp : ∀ k, w.heap.size + 2 ≤ k → WZ.heap[k]? = w1.heap[k]? := fun k hk => by rw [an.2.2 k hk, p1.2 k hk]
    have kb : ∀ k, w.heap.size + 2 ≤ k → k < we.heap.size → WZ.heap[k]? = we.heap[k]? := fun k hk hk2 => by rw [kp k hk]; exact b1.block k hk2
    have kk : ∀ {t : TypeId} {cc nn : Nat} {vv : Value} {ll : List Value}, we.ownsRow (w.heap.size + 2) t cc vv nn ll → WZ.ownsRow w.heap.size t cc vv nn ll := fun q => own_mono (own_keep q (fun k hk => kb k (World.ownsRow.lt q k hk).1 (World.ownsRow.lt q k hk).2)) (by omega)
    refine ⟨⟨?_, ?_, ?_, ?_, ?_, ?_⟩, an.2.1⟩
    · show WZ.ownsRow w.heap.size 86 3 (.slice a1' LA k1') adds.length (riC adds)
      rw [← hA]; exact kk q1
    · show WZ.ownsRow w.heap.size 3 1 (.slice a2' LR k2') rem.length (rem.map I64)
      rw [← hR]; exact kk q2
    · show WZ.ownsRow w.heap.size 89 3 (.slice a3' LQ k3') seals.length (riC seals)
      rw [← hQ]; exact kk q3
    · show WZ.ownsRow w.heap.size 92 2 (.slice a4' LJ k4') joins.length (riC joins)
      rw [← hJ]; exact kk q4
    · exact ((ho.owl.keep (fun k hk => kp k (by have := (ho.owl.lt k hk).1; omega))).mono (by omega)).otr
    · intro i u k hu hk hq
      have h8 := (World.ownsRow.lt q2 k hq).2
      have h9 := (ho.owl.lt k (zK_el (K := kNd) hu (by show k ∈ u.ownBlock.toList; simp [hk]))).1
      omega
  have y12 : w1.cell? ⟨w.heap.size, 12, none⟩ = some (.slice a5 LN k5) := blk_c s1.k1 rfl
  have f3 := fun j => froz_b' (i := j) s1.k1
  have d0_ : V1.cell? ⟨w.heap.size, 0, none⟩ = some (.int .i64 g0) := blk_c s2.k1 rfl
  have d1_ : V1.cell? ⟨w.heap.size, 1, none⟩ = some (.int .i64 g1) := blk_c s2.k1 rfl
  have d2_ : V1.cell? ⟨w.heap.size, 2, none⟩ = some (.int .i64 g2) := blk_c s2.k1 rfl
  have d3_ : V1.cell? ⟨w.heap.size, 3, none⟩ = some (.int .i64 g3) := blk_c s2.k1 rfl
  have d4_ : V1.cell? ⟨w.heap.size, 4, none⟩ = some (.int .i64 g4) := blk_c s2.k1 rfl
  have d5_ : V1.cell? ⟨w.heap.size, 5, none⟩ = some (.bool g5) := blk_c s2.k1 rfl
  have d6_ : V1.cell? ⟨w.heap.size, 6, none⟩ = some (.slice a1' LA k1') := blk_c s2.k1 rfl
  have d7_ : V1.cell? ⟨w.heap.size, 7, none⟩ = some (.slice a2' LR k2') := blk_c s2.k1 rfl
  have d8_ : V1.cell? ⟨w.heap.size, 8, none⟩ = some (.slice a3' LQ k3') := blk_c s2.k1 rfl
  have d9_ : V1.cell? ⟨w.heap.size, 9, none⟩ = some (.slice a4' LJ k4') := blk_c s2.k1 rfl
  have d10_ : V1.cell? ⟨w.heap.size, 10, none⟩ = some (.int .i64 g10) := blk_c s2.k1 rfl
  have d11_ : V1.cell? ⟨w.heap.size, 11, none⟩ = some (.int .i64 g11) := blk_c s2.k1 rfl
  have d12_ : V1.cell? ⟨w.heap.size, 12, none⟩ = some (.slice a5' LN k5') := blk_c s2.k1 rfl
  have d13_ : V1.cell? ⟨w.heap.size, 13, none⟩ = some (.int .i64 g13) := blk_c s2.k1 rfl
  have d14_ : V1.cell? ⟨w.heap.size, 14, none⟩ = some (.int .i64 g14) := blk_c s2.k1 rfl
  have e0_ : V1.cell? ⟨w.heap.size + 1, 0, none⟩ = some (.int .i64 0) := blk_c s2.k2 rfl
  have e1_ : V1.cell? ⟨w.heap.size + 1, 1, none⟩ = some (.int .i64 0) := blk_c s2.k2 rfl
  have e2_ : V1.cell? ⟨w.heap.size + 1, 2, none⟩ = some (.int .i64 0) := blk_c s2.k2 rfl
  have e3_ : V1.cell? ⟨w.heap.size + 1, 3, none⟩ = some (.int .i64 0) := blk_c s2.k2 rfl
  have e4_ : V1.cell? ⟨w.heap.size + 1, 4, none⟩ = some (.int .i64 0) := blk_c s2.k2 rfl
  have e5_ : V1.cell? ⟨w.heap.size + 1, 5, none⟩ = some (.bool false) := blk_c s2.k2 rfl
  have e6_ : V1.cell? ⟨w.heap.size + 1, 6, none⟩ = some (.slice none 0 0) := blk_c s2.k2 rfl
  have e7_ : V1.cell? ⟨w.heap.size + 1, 7, none⟩ = some (.slice none 0 0) := blk_c s2.k2 rfl
  have e8_ : V1.cell? ⟨w.heap.size + 1, 8, none⟩ = some (.slice none 0 0) := blk_c s2.k2 rfl
  have e9_ : V1.cell? ⟨w.heap.size + 1, 9, none⟩ = some (.slice none 0 0) := blk_c s2.k2 rfl
  have e10_ : V1.cell? ⟨w.heap.size + 1, 10, none⟩ = some (.int .i64 0) := blk_c s2.k2 rfl
  have e11_ : V1.cell? ⟨w.heap.size + 1, 11, none⟩ = some (.int .i64 0) := blk_c s2.k2 rfl
  have e12_ : V1.cell? ⟨w.heap.size + 1, 12, none⟩ = some (.slice none 0 0) := blk_c s2.k2 rfl
  have e13_ : V1.cell? ⟨w.heap.size + 1, 13, none⟩ = some (.int .i64 0) := blk_c s2.k2 rfl
  have e14_ : V1.cell? ⟨w.heap.size + 1, 14, none⟩ = some (.int .i64 0) := blk_c s2.k2 rfl
  have fe := fun j => froz_b' (i := j) s2.k2
  have z0_ : WZ.cell? ⟨w.heap.size + 1, 0, none⟩ = some (.int .i64 g0) := blk_c an.1 rfl
  have z1_ : WZ.cell? ⟨w.heap.size + 1, 1, none⟩ = some (.int .i64 g1) := blk_c an.1 rfl
  have z2_ : WZ.cell? ⟨w.heap.size + 1, 2, none⟩ = some (.int .i64 g2) := blk_c an.1 rfl
  have z3_ : WZ.cell? ⟨w.heap.size + 1, 3, none⟩ = some (.int .i64 g3) := blk_c an.1 rfl
  have z4_ : WZ.cell? ⟨w.heap.size + 1, 4, none⟩ = some (.int .i64 g4) := blk_c an.1 rfl
  have z5_ : WZ.cell? ⟨w.heap.size + 1, 5, none⟩ = some (.bool g5) := blk_c an.1 rfl
  have z6_ : WZ.cell? ⟨w.heap.size + 1, 6, none⟩ = some (.slice a1' LA k1') := blk_c an.1 rfl
  have z7_ : WZ.cell? ⟨w.heap.size + 1, 7, none⟩ = some (.slice a2' LR k2') := blk_c an.1 rfl
  have z8_ : WZ.cell? ⟨w.heap.size + 1, 8, none⟩ = some (.slice a3' LQ k3') := blk_c an.1 rfl
  have z9_ : WZ.cell? ⟨w.heap.size + 1, 9, none⟩ = some (.slice a4' LJ k4') := blk_c an.1 rfl
  have z10_ : WZ.cell? ⟨w.heap.size + 1, 10, none⟩ = some (.int .i64 g10) := blk_c an.1 rfl
  have z11_ : WZ.cell? ⟨w.heap.size + 1, 11, none⟩ = some (.int .i64 g11) := blk_c an.1 rfl
  have z12_ : WZ.cell? ⟨w.heap.size + 1, 12, none⟩ = some (.slice a5' LN k5') := blk_c an.1 rfl
  have z13_ : WZ.cell? ⟨w.heap.size + 1, 13, none⟩ = some (.int .i64 g13) := blk_c an.1 rfl
  have z14_ : WZ.cell? ⟨w.heap.size + 1, 14, none⟩ = some (.int .i64 g14) := blk_c an.1 rfl
  have HV := hide hV1
  have HZ : Hid (WZ = (((((((((((((((V1).setCell ⟨w.heap.size + 1, 0, none⟩ (.int .i64 g0)).setCell ⟨w.heap.size + 1, 1, none⟩ (.int .i64 g1)).setCell ⟨w.heap.size + 1, 2, none⟩ (.int .i64 g2)).setCell ⟨w.heap.size + 1, 3, none⟩ (.int .i64 g3)).setCell ⟨w.heap.size + 1, 4, none⟩ (.int .i64 g4)).setCell ⟨w.heap.size + 1, 5, none⟩ (.bool g5)).setCell ⟨w.heap.size + 1, 6, none⟩ (.slice a1' LA k1')).setCell ⟨w.heap.size + 1, 7, none⟩ (.slice a2' LR k2')).setCell ⟨w.heap.size + 1, 8, none⟩ (.slice a3' LQ k3')).setCell ⟨w.heap.size + 1, 9, none⟩ (.slice a4' LJ k4')).setCell ⟨w.heap.size + 1, 10, none⟩ (.int .i64 g10)).setCell ⟨w.heap.size + 1, 11, none⟩ (.int .i64 g11)).setCell ⟨w.heap.size + 1, 12, none⟩ (.slice a5' LN k5')).setCell ⟨w.heap.size + 1, 13, none⟩ (.int .i64 g13)).setCell ⟨w.heap.size + 1, 14, none⟩ (.int .i64 g14)) := hWZ
  clear S0 KA5 ho b1 s1 p1 hV1 s2 an hWZ R2 x12
  go_upto_region 4 with fail
  rw [← unhide HV]
  clear HV y12 f3
  go_wp2_with fail
  rw [← unhide HZ]
  exact bodyPost_ret (v := .agg #[.int .i64 g0, .int .i64 g1, .int .i64 g2, .int .i64 g3, .int .i64 g4, .bool g5, .slice a1' LA k1', .slice a2' LR k2', .slice a3' LQ k3', .slice a4' LJ k4', .int .i64 g10, .int .i64 g11, .slice a5' LN k5', .int .i64 g13, .int .i64 g14]) (by simp [results, Tryd.results26, go_sem, z0_, z1_, z2_, z3_, z4_, z5_, z6_, z7_, z8_, z9_, z10_, z11_, z12_, z13_, z14_]) rfl ⟨⟨.slice a1' LA k1', .slice a2' LR k2', .slice a3' LQ k3', .slice a4' LJ k4', .slice a5' LN k5'⟩, us, rfl, (unhide HO).1, (unhide HO).2⟩
end Go.Proofs.YthlbdajnkdkocaaDoor

/- fresh.List of Commits: a list of copies, in memory of its own. -/
namespace Go.Proofs.YthlbdajnkdkocaaDoor
open Go.RowKit Go.Maps
set_option maxRecDepth 100000 in
set_option maxHeartbeats 8000000 in
theorem listCommit_any {w : World} {v : Value} {l : List Cm} {xs : List (Cv × List Value)} (h : RdL kCm w v l xs) (hl : l.length ≤ 1073741824) :
    Calls Tryd.prog 44 #[v, .func (.func 26) #[] #[]] w fun e w' => ∃ v' xs', e = .returned v' ∧ OwL kCm w.heap.size w' v' l xs' ∧ Below w.heap.size w w' := by
  obtain ⟨ad, cap, rfl, hsrc⟩ := h.form
  have KC := hide (cloneCommit_any (w := w) (a := ad) (cap := cap) (cs := cellK kCm l xs) (cellK_len h.xl) (cellK_one h.xl h.el) hl (hsrc.imp (fun c => by rw [c]; rfl) (fun c => c)))
  have HC : Hid (∀ (w1 wr : World) (v : Value) (g : Nat) (xs : List (Cv × List Value)) (i : Nat), CpL kCm w.heap.size w w1 wr v g l xs i → i < l.length → ∃ (a : Cm) (g0 : Int) (g1 : Int) (g2 : Int) (g3 : Int) (g4 : Int) (g5 : Bool) (a1 : Option Addr) (LA : Nat) (k1 : Nat) (a2 : Option Addr) (LR : Nat) (k2 : Nat) (a3 : Option Addr) (LQ : Nat) (k3 : Nat) (a4 : Option Addr) (LJ : Nat) (k4 : Nat) (g10 : Int) (g11 : Int) (a5 : Option Addr) (LN : Nat) (k5 : Nat) (g13 : Int) (g14 : Int), l[i]? = some a ∧ (∀ W, Below wr.heap.size wr W → (W.cell? ⟨g, i * 15, none⟩ = some (.int .i64 g0) ∧ W.cell? ⟨g, i * 15 + 1, none⟩ = some (.int .i64 g1) ∧ W.cell? ⟨g, i * 15 + 2, none⟩ = some (.int .i64 g2) ∧ W.cell? ⟨g, i * 15 + 3, none⟩ = some (.int .i64 g3) ∧ W.cell? ⟨g, i * 15 + 4, none⟩ = some (.int .i64 g4) ∧ W.cell? ⟨g, i * 15 + 5, none⟩ = some (.bool g5) ∧ W.cell? ⟨g, i * 15 + 6, none⟩ = some (.slice a1 LA k1) ∧ W.cell? ⟨g, i * 15 + 7, none⟩ = some (.slice a2 LR k2) ∧ W.cell? ⟨g, i * 15 + 8, none⟩ = some (.slice a3 LQ k3) ∧ W.cell? ⟨g, i * 15 + 9, none⟩ = some (.slice a4 LJ k4) ∧ W.cell? ⟨g, i * 15 + 10, none⟩ = some (.int .i64 g10) ∧ W.cell? ⟨g, i * 15 + 11, none⟩ = some (.int .i64 g11) ∧ W.cell? ⟨g, i * 15 + 12, none⟩ = some (.slice a5 LN k5) ∧ W.cell? ⟨g, i * 15 + 13, none⟩ = some (.int .i64 g13) ∧ W.cell? ⟨g, i * 15 + 14, none⟩ = some (.int .i64 g14))) ∧
      ∀ W, Below w.heap.size w W → Calls Tryd.prog 26 #[.agg #[.int .i64 g0, .int .i64 g1, .int .i64 g2, .int .i64 g3, .int .i64 g4, .bool g5, .slice a1 LA k1, .slice a2 LR k2, .slice a3 LQ k3, .slice a4 LJ k4, .int .i64 g10, .int .i64 g11, .slice a5 LN k5, .int .i64 g13, .int .i64 g14]] W fun x w' => ∃ a1' k1' a2' k2' a3' k3' a4' k4' a5' k5' x', x = .returned (.agg #[.int .i64 g0, .int .i64 g1, .int .i64 g2, .int .i64 g3, .int .i64 g4, .bool g5, .slice a1' LA k1', .slice a2' LR k2', .slice a3' LQ k3', .slice a4' LJ k4', .int .i64 g10, .int .i64 g11, .slice a5' LN k5', .int .i64 g13, .int .i64 g14]) ∧ Hid (kCm.O W.heap.size w' a x' ∧ kCm.C a x' = [.int .i64 g0, .int .i64 g1, .int .i64 g2, .int .i64 g3, .int .i64 g4, .bool g5, .slice a1' LA k1', .slice a2' LR k2', .slice a3' LQ k3', .slice a4' LJ k4', .int .i64 g10, .int .i64 g11, .slice a5' LN k5', .int .i64 g13, .int .i64 g14]) ∧ Below W.heap.size W w') := by
    intro w1 wr v g xs i hcp hi
    obtain ⟨a, x, ha, hx, hR, hc⟩ := hcp.at hi
    obtain ⟨a1, k1, e1⟩ := hR.1.adds.slice
    obtain ⟨a2, k2, e2⟩ := nums_slice hR.1.rem
    obtain ⟨a3, k3, e3⟩ := hR.1.seals.slice
    obtain ⟨a4, k4, e4⟩ := hR.1.joins.slice
    obtain ⟨a5, k5, e5⟩ := hR.1.next.slice
    have KF := fun W hW => frCommit_any (w := W) (hR.1.bw hW) hR.2
    obtain ⟨⟨av, rv, qv, jv, nv⟩, us⟩ := x
    simp only at e1 e2 e3 e4 e5
    subst e1 e2 e3 e4 e5
    refine ⟨a, a.gr, a.ep, a.dev, a.mem, a.ke, a.ext, a1, a.adds.length, k1, a2, a.rem.length, k2, a3, a.seals.length, k3, a4, a.joins.length, k4, a.own, a.ent, a5, a.next.length, k5, a.face, a.card, ha, fun W hW => ?_, fun W hW => ?_⟩
    · have e := fun j u hu => by have := hc j u hu; rw [← (hW.cell (lt_of_cell this))] at this; exact this
      exact ⟨e 0 _ rfl, e 1 _ rfl, e 2 _ rfl, e 3 _ rfl, e 4 _ rfl, e 5 _ rfl, e 6 _ rfl, e 7 _ rfl, e 8 _ rfl, e 9 _ rfl, e 10 _ rfl, e 11 _ rfl, e 12 _ rfl, e 13 _ rfl, e 14 _ rfl⟩
    · have hR' := hR
      refine (KF W hW).mono ?_
      rintro y w' ⟨x', us', rfl, ho, hb⟩
      obtain ⟨a1', k1', e1⟩ := own_slice ho.adds
      obtain ⟨a2', k2', e2⟩ := own_slice ho.rem
      obtain ⟨a3', k3', e3⟩ := own_slice ho.seals
      obtain ⟨a4', k4', e4⟩ := own_slice ho.joins
      obtain ⟨a5', k5', e5⟩ := own_slice ho.next.row
      obtain ⟨av, rv, qv, jv, nv⟩ := x'
      simp only at e1 e2 e3 e4 e5
      subst e1 e2 e3 e4 e5
      exact ⟨a1', k1', a2', k2', a3', k3', a4', k4', a5', k5', (_, us'), rfl, ⟨ho, rfl⟩, hb⟩
  have HR := hide h
  obtain ⟨N, hN⟩ : ∃ N, N = l.length := ⟨_, rfl⟩
  rw [← hN] at KC HC hl ⊢
  have hNI : (N : Int) ≤ 1073741824 := by omega
  have HN := hide hN
  clear h hsrc hl hN
  rcases Nat.eq_zero_or_pos N with h0 | h0
  · subst h0
    go_enter Tryd.func44, Tryd.ntmps44
    go_wp2_with fail
    refine (unhide KC).mono ?_
    rintro e w1 ⟨v1, rfl, ho, b1⟩
    obtain ⟨a1, c1, rfl⟩ := own_slice ho
    have HO := hide (And.intro ho b1)
    clear ho b1 KC HC
    go_wp2_with fail
    go_loopw [12] (fun iv wr => iv = .int .i64 0 ∧ wr = w1) (fun _ _ => 0)
    case atStart => exact ⟨rfl, rfl⟩
    case round =>
      obtain ⟨rfl, rfl⟩ := hrel
      go_wp2_with fail
      go_ret
      have hl0 : l = [] := List.eq_nil_of_length_eq_zero (unhide HN).symm
      have hx0 : xs = [] := List.eq_nil_of_length_eq_zero (by rw [(unhide HR).xl, hl0]; rfl)
      subst hl0 hx0
      exact ⟨_, [], rfl, ⟨rfl, (unhide HO).1, by simp, by simp, by simp⟩, (unhide HO).2⟩
  · go_enter Tryd.func44, Tryd.ntmps44
    go_wp2_with fail
    refine (unhide KC).mono ?_
    rintro e w1 ⟨v1, rfl, ho, b1⟩
    obtain ⟨g, c1, rfl, hg, _, _⟩ := own_open ho h0
    have S0 : Hid (CpL kCm w.heap.size w w1 w1 (.slice (some ⟨g, 0, none⟩) N c1) g l xs 0) := CpL.start (unhide HR) (by rw [← unhide HN]; exact ho) rfl
    have HB := hide (And.intro b1 hg)
    clear ho b1 KC hg
    go_wp2_with fail
    go_loopw [12] (fun iv wr => ∃ (i : Nat) (xs' : List (Cv × List Value)), iv = .int .i64 (i : Int) ∧ i ≤ N ∧ Hid (CpL kCm w.heap.size w w1 wr (.slice (some ⟨g, 0, none⟩) N c1) g l xs' i)) (fun iv _ => (N - intOf iv).toNat)
    case atStart => exact ⟨0, xs, rfl, Nat.zero_le _, S0⟩
    case round =>
      clear S0
      obtain ⟨i, xs', rfl, hi, HS⟩ := hrel
      by_cases hlt : i < N
      · obtain ⟨a, g0, g1, g2, g3, g4, g5, a1, LA, k1, a2, LR, k2, a3, LQ, k3, a4, LJ, k4, g10, g11, a5, LN, k5, g13, g14, ha, hcl, KF⟩ := unhide HC w1 wr _ g xs' i (unhide HS) hlt
        obtain ⟨c0_, c1_, c2_, c3_, c4_, c5_, c6_, c7_, c8_, c9_, c10_, c11_, c12_, c13_, c14_⟩ := hcl wr (Below.refl _ _)
        obtain ⟨W1, hW1⟩ : ∃ W, W = wr.alloc (.cells #[.int .i64 g0, .int .i64 g1, .int .i64 g2, .int .i64 g3, .int .i64 g4, .bool g5, .slice a1 LA k1, .slice a2 LR k2, .slice a3 LQ k3, .slice a4 LJ k4, .int .i64 g10, .int .i64 g11, .slice a5 LN k5, .int .i64 g13, .int .i64 g14] 31) := ⟨_, rfl⟩
        have hz : W1.heap[wr.heap.size]? = some (.cells #[.int .i64 g0, .int .i64 g1, .int .i64 g2, .int .i64 g3, .int .i64 g4, .bool g5, .slice a1 LA k1, .slice a2 LR k2, .slice a3 LQ k3, .slice a4 LJ k4, .int .i64 g10, .int .i64 g11, .slice a5 LN k5, .int .i64 g13, .int .i64 g14] 31 (0, 0)) := by
          rw [hW1]; exact heap_alloc_new _ _
        have bz : Below wr.heap.size wr W1 := by rw [hW1]; exact bwA _ _
        have bw1 : Below w.heap.size w W1 := bw_tr (Fr.toBase (unhide HB).1 (unhide HS).fr (by intro x hx; rw [List.mem_singleton] at hx; subst hx; exact (World.ownsRow.lt (unhide HS).row x (unhide HS).own).1)) bz
        have q1 : (i : Int) < (N : Int) := by omega
        have q0 : (0 : Int) ≤ (i : Int) := by omega
        have z0_ : W1.cell? ⟨wr.heap.size, 0, none⟩ = some (.int .i64 g0) := blk_c hz rfl
        have z1_ : W1.cell? ⟨wr.heap.size, 1, none⟩ = some (.int .i64 g1) := blk_c hz rfl
        have z2_ : W1.cell? ⟨wr.heap.size, 2, none⟩ = some (.int .i64 g2) := blk_c hz rfl
        have z3_ : W1.cell? ⟨wr.heap.size, 3, none⟩ = some (.int .i64 g3) := blk_c hz rfl
        have z4_ : W1.cell? ⟨wr.heap.size, 4, none⟩ = some (.int .i64 g4) := blk_c hz rfl
        have z5_ : W1.cell? ⟨wr.heap.size, 5, none⟩ = some (.bool g5) := blk_c hz rfl
        have z6_ : W1.cell? ⟨wr.heap.size, 6, none⟩ = some (.slice a1 LA k1) := blk_c hz rfl
        have z7_ : W1.cell? ⟨wr.heap.size, 7, none⟩ = some (.slice a2 LR k2) := blk_c hz rfl
        have z8_ : W1.cell? ⟨wr.heap.size, 8, none⟩ = some (.slice a3 LQ k3) := blk_c hz rfl
        have z9_ : W1.cell? ⟨wr.heap.size, 9, none⟩ = some (.slice a4 LJ k4) := blk_c hz rfl
        have z10_ : W1.cell? ⟨wr.heap.size, 10, none⟩ = some (.int .i64 g10) := blk_c hz rfl
        have z11_ : W1.cell? ⟨wr.heap.size, 11, none⟩ = some (.int .i64 g11) := blk_c hz rfl
        have z12_ : W1.cell? ⟨wr.heap.size, 12, none⟩ = some (.slice a5 LN k5) := blk_c hz rfl
        have z13_ : W1.cell? ⟨wr.heap.size, 13, none⟩ = some (.int .i64 g13) := blk_c hz rfl
        have z14_ : W1.cell? ⟨wr.heap.size, 14, none⟩ = some (.int .i64 g14) := blk_c hz rfl
        have HW : Hid (W1 = wr.alloc (.cells #[.int .i64 g0, .int .i64 g1, .int .i64 g2, .int .i64 g3, .int .i64 g4, .bool g5, .slice a1 LA k1, .slice a2 LR k2, .slice a3 LQ k3, .slice a4 LJ k4, .int .i64 g10, .int .i64 g11, .slice a5 LN k5, .int .i64 g13, .int .i64 g14] 31)) := hW1
        have KF1 := hide (KF W1 bw1)
        have HX0 := hide (And.intro ha (And.intro bz (fun W hW => hcl W hW)))
        clear hW1 hz bz bw1 KF ha hcl
        go_upto_region 5 with fail
        rw [← unhide HW]
        clear HW c0_ c1_ c2_ c3_ c4_ c5_ c6_ c7_ c8_ c9_ c10_ c11_ c12_ c13_ c14_
        go_wp2_with fail
        refine (unhide KF1).mono ?_
        rintro x w2 ⟨a1', k1', a2', k2', a3', k3', a4', k4', a5', k5', x', rfl, hO, b2⟩
        obtain ⟨d0_, d1_, d2_, d3_, d4_, d5_, d6_, d7_, d8_, d9_, d10_, d11_, d12_, d13_, d14_⟩ := (unhide HX0).2.2 w2 (bw_tr (unhide HX0).2.1 b2)
        have hS2 := (unhide HS).bw (bw_tr (unhide HX0).2.1 b2)
        have fz := fun j => own_frozen hS2.row (g := g) rfl j
        have HX : Hid (CpL kCm w.heap.size w w1 ((((((((((((((((w2).setCell ⟨g, i * 15, none⟩ (.int .i64 g0)).setCell ⟨g, i * 15 + 1, none⟩ (.int .i64 g1)).setCell ⟨g, i * 15 + 2, none⟩ (.int .i64 g2)).setCell ⟨g, i * 15 + 3, none⟩ (.int .i64 g3)).setCell ⟨g, i * 15 + 4, none⟩ (.int .i64 g4)).setCell ⟨g, i * 15 + 5, none⟩ (.bool g5)).setCell ⟨g, i * 15 + 6, none⟩ (.slice a1' LA k1')).setCell ⟨g, i * 15 + 7, none⟩ (.slice a2' LR k2')).setCell ⟨g, i * 15 + 8, none⟩ (.slice a3' LQ k3')).setCell ⟨g, i * 15 + 9, none⟩ (.slice a4' LJ k4')).setCell ⟨g, i * 15 + 10, none⟩ (.int .i64 g10)).setCell ⟨g, i * 15 + 11, none⟩ (.int .i64 g11)).setCell ⟨g, i * 15 + 12, none⟩ (.slice a5' LN k5')).setCell ⟨g, i * 15 + 13, none⟩ (.int .i64 g13)).setCell ⟨g, i * 15 + 14, none⟩ (.int .i64 g14)) (.slice (some ⟨g, 0, none⟩) N c1) g l (xs'.set i x') (i + 1)) := by
          have := ((unhide HS).bw (unhide HX0).2.1).step (unhide HX0).1 b2 (unhide hO).1 (unhide HB).2
          rw [(unhide hO).2] at this
          exact this
        clear hS2 HX0 hO b2 KF1 z0_ z1_ z2_ z3_ z4_ z5_ z6_ z7_ z8_ z9_ z10_ z11_ z12_ z13_ z14_
        go_wp2_with fail
        go_roundw
        case rel => exact ⟨i + 1, _, by go_num, by omega, HX⟩
        case measure => simp [intOf]; omega
      · obtain rfl : i = N := by omega
        have HO : Hid (OwL kCm w.heap.size wr (.slice (some ⟨g, 0, none⟩) i c1) l xs' ∧ Below w.heap.size w wr) := by
          have hS := unhide HS
          refine ⟨?_, Fr.toBase (unhide HB).1 hS.fr (by intro x hx; rw [List.mem_singleton] at hx; subst hx; exact (World.ownsRow.lt hS.row x hS.own).1)⟩
          have e := unhide HN
          have hS' : CpL kCm w.heap.size w w1 wr (.slice (some ⟨g, 0, none⟩) i c1) g l xs' l.length := by rw [← e]; exact hS
          exact hS'.done (unhide HB).1.size (unhide HB).2
        clear HS HC
        go_wp2_with fail
        go_ret
        exact ⟨_, xs', rfl, (unhide HO).1, (unhide HO).2⟩
end Go.Proofs.YthlbdajnkdkocaaDoor

/- Logs: to be read and of one's own; a log's copy (fresh.Log). -/
namespace Go.Proofs.YthlbdajnkdkocaaDoor
open Go.RowKit Go.Maps
theorem choose_list {α ξ : Type} : ∀ (l : List α) {P : Nat → α → ξ → Prop}, (∀ (i : Nat) (a : α), l[i]? = some a → ∃ x, P i a x) → ∃ xs : List ξ, xs.length = l.length ∧ ∀ (i : Nat) (a : α) (x : ξ), l[i]? = some a → xs[i]? = some x → P i a x
  | [], P, _ => ⟨[], rfl, by simp⟩
  | b :: l, P, h => by
    obtain ⟨x, hx⟩ := h 0 b rfl
    obtain ⟨xs, h1, h2⟩ := choose_list l (P := fun i a x => P (i + 1) a x) (fun i a ha => h (i + 1) a (by rw [List.getElem?_cons_succ]; exact ha))
    refine ⟨x :: xs, by simp [h1], fun i a y ha hy => ?_⟩
    cases i with
    | zero => simp at ha hy; subst ha hy; exact hx
    | succ i => rw [List.getElem?_cons_succ] at ha hy; exact h2 i a y ha hy
theorem Cms.rdl {w : World} {v : Value} {l : List Cm} (h : Cms w v l) (hs : ∀ c ∈ l, SmC c) : ∃ xs, RdL kCm w v l xs := by
  obtain ⟨hl, a, cap, rfl, hc⟩ := h
  rcases hc with rfl | ⟨g, o, rfl, hc⟩
  · exact ⟨[], rfl, by simp, a, cap, rfl, Or.inl rfl⟩
  · obtain ⟨xs, h1, h2⟩ := choose_list l (P := fun i c x => CmR w c x ∧ ∀ j u, (cmC c x)[j]? = some u → w.cell? ⟨g, o + i * 15 + j, none⟩ = some u) hc
    refine ⟨xs.map (fun x => (x, [])), by simpa using h1, fun i c x hci hx => ?_, _, cap, rfl, Or.inr ⟨g, o, rfl, fun j u hj => ?_⟩⟩
    · rw [List.getElem?_map, Option.map_eq_some_iff] at hx
      obtain ⟨y, hy, rfl⟩ := hx
      exact ⟨(h2 i c y hci hy).1, hs c (List.mem_of_getElem? hci)⟩
    · obtain ⟨i, k, c, x, rfl, hk, hci, hx, hu⟩ := cellK_inv (K := kCm) (by simpa using h1) hj
      rw [List.getElem?_map, Option.map_eq_some_iff] at hx
      obtain ⟨y, hy, rfl⟩ := hx
      have := (h2 i c y hci hy).2 k u hu
      rw [Nat.add_assoc] at this
      exact this
theorem RdL.cms {w : World} {v : Value} {l : List Cm} {xs : List (Cv × List Value)} (h : RdL kCm w v l xs) (hl : l.length ≤ 1073741824) : Cms w v l := by
  obtain ⟨ad, cap, hv, hc⟩ := h.form
  refine ⟨Nat.le_trans hl (by decide), ad, cap, hv, ?_⟩
  rcases hc with c | ⟨g, o, e, hc⟩
  · exact Or.inl c
  · refine Or.inr ⟨g, o, e, fun i c hi => ?_⟩
    have hil : i < xs.length := by rw [h.xl]; exact (List.getElem?_eq_some_iff.1 hi).1
    have hx : xs[i]? = some xs[i] := List.getElem?_eq_getElem hil
    refine ⟨xs[i].1, (h.el i c _ hi hx).1, fun j u hj => ?_⟩
    have := hc _ _ (cellK_get (K := kCm) hi hx hj)
    rw [Nat.add_assoc]
    exact this
theorem OwL.cms {B : Nat} {w : World} {v : Value} {l : List Cm} {xs : List (Cv × List Value)} (h : OwL kCm B w v l xs) (hl : l.length ≤ 1073741824) (hs : ∀ c ∈ l, SmC c) : Cms w v l :=
  (h.rd (fun _ c _ hi _ ho => ⟨OC.rd ho (hs c (List.mem_of_getElem? hi)), hs c (List.mem_of_getElem? hi)⟩)).cms hl
structure SmG (p : Lg) : Prop where
  n : p.2.length ≤ 1073741824
  c : ∀ c ∈ p.2, SmC c
structure SmL (l : List Lg) : Prop where
  n : l.length ≤ 1073741824
  g : ∀ p ∈ l, SmG p
def kLg : EK Lg (Value × List (Cv × List Value)) where
  t := 46
  c := 2
  C := fun p x => [.int .i64 p.1, x.1]
  Z := fun x => zK kCm x.1 x.2
  R := fun w p x => Cms w x.1 p.2 ∧ SmG p
  O := fun B w p x => OwL kCm B w x.1 p.2 x.2
  pos := by decide
  Cl := fun _ _ => rfl
  one := fun w p x h v hv => by
    obtain ⟨a1, k1, e1⟩ := h.1.slice
    simp only [e1, List.mem_cons, List.not_mem_nil, or_false] at hv
    rcases hv with rfl | rfl <;> rfl
  bw := fun w w' p x h hb => ⟨h.1.bw hb, h.2⟩
  keep := fun B w w' p x h hk => OwL.keep h hk
  lt := fun B w p x h => OwL.lt h
  mono := fun B B' w p x h hB => OwL.mono h hB
theorem Lgs.rdl {w : World} {v : Value} {l : List Lg} (h : Lgs w v l) (hs : SmL l) : ∃ xs, RdL kLg w v l xs := by
  obtain ⟨hl, a, cap, rfl, hc⟩ := h
  rcases hc with rfl | ⟨g, o, rfl, hc⟩
  · exact ⟨[], rfl, by simp, a, cap, rfl, Or.inl rfl⟩
  · obtain ⟨xs, h1, h2⟩ := choose_list l (P := fun i p cv => Cms w cv p.2 ∧ w.cell? ⟨g, o + i * 2, none⟩ = some (.int .i64 p.1) ∧ w.cell? ⟨g, o + i * 2 + 1, none⟩ = some cv) hc
    refine ⟨xs.map (fun x => (x, [])), by simpa using h1, fun i c x hci hx => ?_, _, cap, rfl, Or.inr ⟨g, o, rfl, fun j u hj => ?_⟩⟩
    · rw [List.getElem?_map, Option.map_eq_some_iff] at hx
      obtain ⟨y, hy, rfl⟩ := hx
      exact ⟨(h2 i c y hci hy).1, hs.g c (List.mem_of_getElem? hci)⟩
    · obtain ⟨i, k, c, x, rfl, hk, hci, hx, hu⟩ := cellK_inv (K := kLg) (by simpa using h1) hj
      rw [List.getElem?_map, Option.map_eq_some_iff] at hx
      obtain ⟨y, hy, rfl⟩ := hx
      obtain ⟨_, q1, q2⟩ := h2 i c y hci hy
      match k, hk, hu with
      | 0, _, hu => cases hu; exact q1
      | 1, _, hu => cases hu; rw [← Nat.add_assoc]; exact q2
theorem RdL.lgs {w : World} {v : Value} {l : List Lg} {xs : List (Value × List (Cv × List Value))} (h : RdL kLg w v l xs) (hl : l.length ≤ 1073741824) : Lgs w v l := by
  obtain ⟨ad, cap, hv, hc⟩ := h.form
  refine ⟨Nat.le_trans hl (by decide), ad, cap, hv, ?_⟩
  rcases hc with c | ⟨g, o, e, hc⟩
  · exact Or.inl c
  · refine Or.inr ⟨g, o, e, fun i p hi => ?_⟩
    have hil : i < xs.length := by rw [h.xl]; exact (List.getElem?_eq_some_iff.1 hi).1
    have hx : xs[i]? = some xs[i] := List.getElem?_eq_getElem hil
    have q0 := hc _ _ (cellK_get (K := kLg) (j := 0) hi hx rfl)
    have q1 := hc _ _ (cellK_get (K := kLg) (j := 1) hi hx rfl)
    exact ⟨xs[i].1, (h.el i p _ hi hx).1, q0, by rw [Nat.add_assoc]; exact q1⟩
theorem OwL.lgs {B : Nat} {w : World} {v : Value} {l : List Lg} {xs : List (Value × List (Cv × List Value))} (h : OwL kLg B w v l xs) (hs : SmL l) : Lgs w v l :=
  (h.rd (fun _ p _ hi _ ho => ⟨OwL.cms ho (hs.g p (List.mem_of_getElem? hi)).n (hs.g p (List.mem_of_getElem? hi)).c, hs.g p (List.mem_of_getElem? hi)⟩)).lgs hs.n
set_option maxRecDepth 100000 in
set_option maxHeartbeats 4000000 in
theorem frLog_any {w : World} {p : Lg} {v : Value} (h : Cms w v p.2) (hs : SmG p) :
    Calls Tryd.prog 24 #[.agg #[.int .i64 p.1, v]] w fun e w' => ∃ v' xs, e = .returned (.agg #[.int .i64 p.1, v']) ∧ OwL kCm w.heap.size w' v' p.2 xs ∧ Below w.heap.size w w' := by
  obtain ⟨w0, hw0⟩ : ∃ w0, w0 = (w.alloc (.cells #[.int .i64 p.1, v] 46)).alloc (.cells #[.int .i64 0, .slice none 0 0] 46) := ⟨_, rfl⟩
  have s0 : TwoB w w0 46 #[.int .i64 p.1, v] #[.int .i64 0, .slice none 0 0] := by rw [hw0]; exact TwoB.start _ _ _ _
  obtain ⟨xs, hr⟩ := (h.bw s0.bel).rdl hs.c
  have KL := hide (listCommit_any hr hs.n)
  obtain ⟨a, c, rfl⟩ := h.slice
  have S0 := hide s0
  have HW := hide hw0
  clear h hs hr s0 hw0
  obtain ⟨G, l⟩ := p
  simp only at KL S0 HW ⊢
  generalize hN : l.length = N at *
  have HN := hide hN
  clear hN
  go_enter Tryd.func24, Tryd.ntmps24
  go_upto_region 1 with fail
  rw [← unhide HW]
  clear HW
  have c1 : w0.cell? ⟨w.heap.size, 1, none⟩ = some (.slice a N c) := blk_c (unhide S0).k1 rfl
  go_wp2_with fail
  refine (unhide KL).mono ?_
  rintro e w1 ⟨v', xs', rfl, ho, b1⟩
  obtain ⟨a', c', hv⟩ := own_slice ho.row
  have s1 := (unhide S0).bw b1
  have p1 := s1.poke 1 v'
  obtain ⟨V1, hV1⟩ : ∃ V, V = w1.setCell ⟨w.heap.size, 1, none⟩ v' := ⟨_, rfl⟩
  rw [← hV1] at p1
  have s2 : TwoB w V1 46 #[.int .i64 G, v'] #[.int .i64 0, .slice none 0 0] := p1.1
  have an := s2.answer [.int .i64 G, v'] rfl
  obtain ⟨WZ, hWZ⟩ : ∃ W, W = pokes V1 (w.heap.size + 1) 0 [.int .i64 G, v'] := ⟨_, rfl⟩
  rw [← hWZ] at an
  have HO : Hid (OwL kCm w.heap.size WZ v' l xs' ∧ Below w.heap.size w WZ) := by
    have h2 := (unhide S0).two
    refine ⟨(ho.keep (fun k hk => ?_)).mono (by omega), an.2.1⟩
    have h1 := (ho.lt k hk).1
    rw [an.2.2 k (by omega), p1.2 k (by omega)]
  subst hv
  have c1 : w1.cell? ⟨w.heap.size, 1, none⟩ = some (.slice a N c) := blk_c s1.k1 rfl
  have f3 := fun j => froz_b' (i := j) s1.k1
  have d0 : V1.cell? ⟨w.heap.size, 0, none⟩ = some (.int .i64 G) := blk_c s2.k1 rfl
  have d1 : V1.cell? ⟨w.heap.size, 1, none⟩ = some (.slice a' l.length c') := blk_c s2.k1 rfl
  have e0 : V1.cell? ⟨w.heap.size + 1, 0, none⟩ = some (.int .i64 0) := blk_c s2.k2 rfl
  have e1 : V1.cell? ⟨w.heap.size + 1, 1, none⟩ = some (.slice none 0 0) := blk_c s2.k2 rfl
  have fe := fun j => froz_b' (i := j) s2.k2
  have z0 : WZ.cell? ⟨w.heap.size + 1, 0, none⟩ = some (.int .i64 G) := blk_c an.1 rfl
  have z1 : WZ.cell? ⟨w.heap.size + 1, 1, none⟩ = some (.slice a' l.length c') := blk_c an.1 rfl
  have HV := hide hV1
  have HZ : Hid (WZ = (V1.setCell ⟨w.heap.size + 1, 0, none⟩ (.int .i64 G)).setCell ⟨w.heap.size + 1, 1, none⟩ (.slice a' l.length c')) := hWZ
  clear S0 KL ho b1 s1 p1 hV1 s2 an hWZ
  go_upto_region 2 with fail
  rw [← unhide HV]
  clear HV c1 f3
  go_wp2_with fail
  rw [← unhide HZ]
  exact bodyPost_ret (v := .agg #[.int .i64 G, .slice a' l.length c']) (by simp [results, Tryd.results24, go_sem, z0, z1]) rfl ⟨_, xs', rfl, (unhide HO).1, (unhide HO).2⟩
end Go.Proofs.YthlbdajnkdkocaaDoor
