/- Texts joined: LgTC LgTM LgTP LgTQ LgTE. -/
import Derived.Test.YtnfhbmlmemifjaaGreatDoorZ15
import Derived.Test.YtnfhbmlmemifjaaGreatDoorZ07
import Derived.Test.YtnfhbmlmemifjaaGreatDoorZ12
/- TwinCommit: a commit's copy, its lists with marks behind them. -/
namespace Go.Proofs.YtnfhbmlmemifjaaGreatDoor
open Go.RowKit Go.Maps
def slV (g n : Nat) : Value := .slice (some ⟨g, 0, none⟩) n (n + 2)
structure TwC (B : Nat) (W : World) (c : Cm) (ga gr gq gj gn : Nat) (us : List Value) : Prop where
  la : B ≤ ga
  lr : B ≤ gr
  lq : B ≤ gq
  lj : B ≤ gj
  adds : TwR 3 131 W ga c.adds
  rem : Twint W gr c.rem
  seals : TwR 3 133 W gq c.seals
  joins : TwR 2 135 W gj c.joins
  next : TwT B W gn c.next us
  un : ∀ u ∈ us, u.ownBlock ≠ some gr
def twX (c : Cm) (ga gr gq gj gn : Nat) : Cv := ⟨slV ga c.adds.length, slV gr c.rem.length, slV gq c.seals.length, slV gj c.joins.length, slV gn c.next.length⟩
theorem TwR.keep {c : Nat} {t : TypeId} {w w' : World} {g : Nat} {l : List (List Int)} (h : TwR c t w g l) (hb : w'.heap[g]? = w.heap[g]?) : TwR c t w' g l := by unfold TwR at h ⊢; rw [hb]; exact h
theorem TwR.lt {c : Nat} {t : TypeId} {w : World} {g : Nat} {l : List (List Int)} (h : TwR c t w g l) : g < w.heap.size := lt_of_blk h
theorem TwT.keep {B B' : Nat} {W W' : World} {G : Nat} {T : List Nd} {us : List Value} (h : TwT B W G T us) (hB : B' ≤ B) (hk : ∀ k, B ≤ k → k < W.heap.size → W'.heap[k]? = W.heap[k]?) : TwT B' W' G T us :=
  ⟨Nat.le_trans hB h.low, h.ul, own_mono (own_keep h.own (fun k hkk => hk k (World.ownsRow.lt h.own k hkk).1 (World.ownsRow.lt h.own k hkk).2)) hB,
   fun j n u hn hu => by obtain ⟨g, h1, h2, h3⟩ := h.un j n u hn hu; exact ⟨g, h1, Nat.le_trans hB h2, h3.keep (hk g h2 h3.lt)⟩, h.apart⟩
theorem TwC.keep {B B' : Nat} {W W' : World} {c : Cm} {ga gr gq gj gn : Nat} {us : List Value} (h : TwC B W c ga gr gq gj gn us) (hB : B' ≤ B) (hk : ∀ k, B ≤ k → k < W.heap.size → W'.heap[k]? = W.heap[k]?) : TwC B' W' c ga gr gq gj gn us :=
  ⟨Nat.le_trans hB h.la, Nat.le_trans hB h.lr, Nat.le_trans hB h.lq, Nat.le_trans hB h.lj, h.adds.keep (hk _ h.la h.adds.lt), h.rem.keep (hk _ h.lr h.rem.lt), h.seals.keep (hk _ h.lq h.seals.lt), h.joins.keep (hk _ h.lj h.joins.lt), h.next.keep hB hk, h.un⟩
theorem TwC.bw {B : Nat} {W W' : World} {c : Cm} {ga gr gq gj gn : Nat} {us : List Value} (h : TwC B W c ga gr gq gj gn us) (hb : Below W.heap.size W W') : TwC B W' c ga gr gq gj gn us := h.keep (Nat.le_refl _) (fun k _ hk => hb.block k hk)
structure SC (w W : World) (cs : Array Value) : Prop where
  k1 : W.heap[w.heap.size]? = some (.cells cs 34 (0, 0))
  k2 : W.heap[w.heap.size + 1]? = some (.cells cm0 34 (0, 0))
  bel : Below w.heap.size w W
theorem SC.two {w W : World} {cs : Array Value} (h : SC w W cs) : w.heap.size + 2 ≤ W.heap.size := lt_of_blk h.k2
theorem SC.bw {w W W' : World} {cs : Array Value} (h : SC w W cs) (hb : Below W.heap.size W W') : SC w W' cs := ⟨kept_b h.k1 (lt_of_blk h.k1) hb, kept_b h.k2 (lt_of_blk h.k2) hb, bw_tr h.bel hb⟩
theorem SC.poke {w W : World} {cs : Array Value} (h : SC w W cs) (i : Nat) (v : Value) : SC w (W.setCell ⟨w.heap.size, i, none⟩ v) (cs.setIfInBounds i v) ∧ ∀ k, w.heap.size + 2 ≤ k → (W.setCell ⟨w.heap.size, i, none⟩ v).heap[k]? = W.heap[k]? :=
  ⟨⟨poke_b h.k1 v, by rw [other_c (by omega)]; exact h.k2, h.bel.setCell (by simp) v⟩, fun k hk => other_c (by omega)⟩
set_option maxRecDepth 100000 in
set_option maxHeartbeats 8000000 in
theorem twincm_any {w : World} {c : Cm} {x : Cv} (h : CmR w c x) (hA : c.adds.length ≤ 262144) (hR : c.rem.length ≤ 262144) (hQ : c.seals.length ≤ 262144) (hJ : c.joins.length ≤ 262144) (hN : c.next.length ≤ 262144) (hU : ∀ n ∈ c.next, n.un.length ≤ 262144) :
    Calls Tryz.prog 27 #[cmV c x] w fun e w' => ∃ ga gr gq gj gn us, e = .returned (cmV c (twX c ga gr gq gj gn)) ∧ TwC w.heap.size w' c ga gr gq gj gn us ∧ Below w.heap.size w w' := by
  obtain ⟨w0, hw0⟩ : ∃ w0, w0 = (w.alloc (.cells (cmC c x).toArray 34)).alloc (.cells cm0 34) := ⟨_, rfl⟩
  have s0 : SC w w0 (cmC c x).toArray := by
    refine ⟨?_, ?_, ?_⟩
    · have h1 := heap_alloc_new w (.cells (cmC c x).toArray 34)
      rw [hw0, Below.heap_alloc _ _ _ (by simp)]; exact h1
    · have h2 := heap_alloc_new (w.alloc (.cells (cmC c x).toArray 34)) (.cells cm0 34)
      have e : (w.alloc (.cells (cmC c x).toArray 34)).heap.size = w.heap.size + 1 := by simp
      rw [e] at h2
      rw [hw0]; exact h2
    · rw [hw0]; exact bw_tr (bwA _ _) (bwA _ _)
  have K0 := hide (twinTree_any w0 x.nv c.next (h.next.bw s0.bel) (by omega) (fun n hn => Nat.le_trans (hU n hn) (by omega)))
  have KA : Hid (∀ W, Below w.heap.size w W → Calls Tryz.prog 161 #[x.av] W fun e w' => e = .returned (.slice (some ⟨W.heap.size, 0, none⟩) c.adds.length (c.adds.length + 2)) ∧ TwR 3 131 w' W.heap.size c.adds ∧ Below W.heap.size W w') := fun W hW => twinAdds_any W x.av c.adds (h.adds.bw hW) hA
  have KR : Hid (∀ W, Below w.heap.size w W → Calls Tryz.prog 162 #[x.rv] W fun e w' => e = .returned (.slice (some ⟨W.heap.size, 0, none⟩) c.rem.length (c.rem.length + 2)) ∧ Twint w' W.heap.size c.rem ∧ Below W.heap.size W w') := fun W hW => twinint_any W x.rv c.rem (h.rem.bw hW) (by omega)
  have KQ : Hid (∀ W, Below w.heap.size w W → Calls Tryz.prog 163 #[x.qv] W fun e w' => e = .returned (.slice (some ⟨W.heap.size, 0, none⟩) c.seals.length (c.seals.length + 2)) ∧ TwR 3 133 w' W.heap.size c.seals ∧ Below W.heap.size W w') := fun W hW => twinSeals_any W x.qv c.seals (h.seals.bw hW) hQ
  have KJ : Hid (∀ W, Below w.heap.size w W → Calls Tryz.prog 164 #[x.jv] W fun e w' => e = .returned (.slice (some ⟨W.heap.size, 0, none⟩) c.joins.length (c.joins.length + 2)) ∧ TwR 2 135 w' W.heap.size c.joins ∧ Below W.heap.size W w') := fun W hW => twinJoins_any W x.jv c.joins (h.joins.bw hW) hJ
  have e1 := h.adds.slice
  have e2 := nums_slice h.rem
  have e3 := h.seals.slice
  have e4 := h.joins.slice
  have e5 := h.next.slice
  clear h hA hR hQ hJ hN hU
  obtain ⟨g0, g1, g2, g3, g4, g5, adds, rem, seals, joins, g10, g11, next, g13, g14⟩ := c
  obtain ⟨av, rv, qv, jv, nv⟩ := x
  simp only at K0 KA KR KQ KJ e1 e2 e3 e4 e5
  obtain ⟨a1, k1, e1⟩ := e1
  obtain ⟨a2, k2, e2⟩ := e2
  obtain ⟨a3, k3, e3⟩ := e3
  obtain ⟨a4, k4, e4⟩ := e4
  obtain ⟨a5, k5, e5⟩ := e5
  obtain ⟨N, hN⟩ : ∃ z, z = next.length := ⟨_, rfl⟩
  rw [← hN] at K0 e5
  obtain ⟨LA, hLA⟩ : ∃ z, z = adds.length := ⟨_, rfl⟩
  obtain ⟨LR, hLR⟩ : ∃ z, z = rem.length := ⟨_, rfl⟩
  obtain ⟨LQ, hLQ⟩ : ∃ z, z = seals.length := ⟨_, rfl⟩
  obtain ⟨LJ, hLJ⟩ : ∃ z, z = joins.length := ⟨_, rfl⟩
  rw [← hLA] at KA e1
  rw [← hLR] at KR e2
  rw [← hLQ] at KQ e3
  rw [← hLJ] at KJ e4
  subst e1 e2 e3 e4 e5
  have HW : Hid (w0 = (w.alloc (.cells #[.int .i64 g0, .int .i64 g1, .int .i64 g2, .int .i64 g3, .int .i64 g4, .bool g5, .slice a1 LA k1, .slice a2 LR k2, .slice a3 LQ k3, .slice a4 LJ k4, .int .i64 g10, .int .i64 g11, .slice a5 N k5, .int .i64 g13, .int .i64 g14] 34)).alloc (.cells #[.int .i64 0, .int .i64 0, .int .i64 0, .int .i64 0, .int .i64 0, .bool false, .slice none 0 0, .slice none 0 0, .slice none 0 0, .slice none 0 0, .int .i64 0, .int .i64 0, .slice none 0 0, .int .i64 0, .int .i64 0] 34)) := hw0
  have S0 : Hid (SC w w0 #[.int .i64 g0, .int .i64 g1, .int .i64 g2, .int .i64 g3, .int .i64 g4, .bool g5, .slice a1 LA k1, .slice a2 LR k2, .slice a3 LQ k3, .slice a4 LJ k4, .int .i64 g10, .int .i64 g11, .slice a5 N k5, .int .i64 g13, .int .i64 g14]) := s0
  have HN := hide (And.intro hN (And.intro hLA (And.intro hLR (And.intro hLQ hLJ))))
  unfold cmV cmC
  clear hw0 s0 hN hLA hLR hLQ hLJ
  go_enter Tryz.func27, Tryz.ntmps27
  go_upto_region 1 with fail
  rw [← unhide HW]
  clear HW
  have c12 : w0.cell? ⟨w.heap.size, 12, none⟩ = some (.slice a5 N k5) := blk_c (unhide S0).k1 rfl
  go_wp2_with fail
  refine (unhide K0).mono ?_
  rintro e w1 ⟨gn, us, rfl, ht, b1⟩
  have s1 := (unhide S0).bw b1
  have p1 := s1.poke 12 (.slice (some ⟨gn, 0, none⟩) N (N + 2))
  obtain ⟨V1, hV1⟩ : ∃ V, V = w1.setCell ⟨w.heap.size, 12, none⟩ (.slice (some ⟨gn, 0, none⟩) N (N + 2)) := ⟨_, rfl⟩
  rw [← hV1] at p1
  have T1 : TwT (w.heap.size + 2) V1 gn next us := ht.keep (unhide S0).two (fun k hk hk2 => p1.2 k (Nat.le_trans (unhide S0).two hk))
  have Q1 : Hid (SC w V1 #[.int .i64 g0, .int .i64 g1, .int .i64 g2, .int .i64 g3, .int .i64 g4, .bool g5, .slice a1 LA k1, .slice a2 LR k2, .slice a3 LQ k3, .slice a4 LJ k4, .int .i64 g10, .int .i64 g11, (.slice (some ⟨gn, 0, none⟩) N (N + 2)), .int .i64 g13, .int .i64 g14] ∧ TwT (w.heap.size + 2) V1 gn next us) := ⟨p1.1, T1⟩
  have c12 : w1.cell? ⟨w.heap.size, 12, none⟩ = some (.slice a5 N k5) := blk_c s1.k1 rfl
  have c6 : w1.cell? ⟨w.heap.size, 6, none⟩ = some (.slice a1 LA k1) := blk_c s1.k1 rfl
  have fz := fun j => froz_b (i := j) s1.k1
  have HV := hide hV1
  clear S0 K0 ht b1 s1 p1 hV1 T1
  go_wp2_with fail
  rw [← unhide HV]
  clear HV c12 c6 fz
  refine (unhide KA V1 (unhide Q1).1.bel).mono ?_
  rintro e w2 ⟨rfl, ht, b1⟩
  have s1 := (unhide Q1).1.bw b1
  have p1 := s1.poke 6 (.slice (some ⟨V1.heap.size, 0, none⟩) LA (LA + 2))
  obtain ⟨V2, hV2⟩ : ∃ V, V = w2.setCell ⟨w.heap.size, 6, none⟩ (.slice (some ⟨V1.heap.size, 0, none⟩) LA (LA + 2)) := ⟨_, rfl⟩
  rw [← hV2] at p1
  have kp : ∀ j, w.heap.size + 2 ≤ j → j < V1.heap.size → V2.heap[j]? = V1.heap[j]? := fun j h1 h2 => by rw [p1.2 j h1]; exact b1.block j h2
  have h2 := (unhide Q1).1.two
  have ht' := ht.keep (p1.2 _ h2)
  have q1 := (unhide Q1).2
  have Q2 : Hid (SC w V2 #[.int .i64 g0, .int .i64 g1, .int .i64 g2, .int .i64 g3, .int .i64 g4, .bool g5, (.slice (some ⟨V1.heap.size, 0, none⟩) LA (LA + 2)), .slice a2 LR k2, .slice a3 LQ k3, .slice a4 LJ k4, .int .i64 g10, .int .i64 g11, (.slice (some ⟨gn, 0, none⟩) N (N + 2)), .int .i64 g13, .int .i64 g14] ∧ TwT (w.heap.size + 2) V2 gn next us ∧ TwR 3 131 V2 V1.heap.size adds ∧ w.heap.size + 2 ≤ V1.heap.size) := ⟨p1.1, q1.keep (Nat.le_refl _) kp, ht', h2⟩
  have c6 : w2.cell? ⟨w.heap.size, 6, none⟩ = some (.slice a1 LA k1) := blk_c s1.k1 rfl
  have c7 : w2.cell? ⟨w.heap.size, 7, none⟩ = some (.slice a2 LR k2) := blk_c s1.k1 rfl
  have fz := fun j => froz_b (i := j) s1.k1
  have HV := hide hV2
  clear ht ht' b1 s1 p1 kp h2 hV2 Q1 KA q1
  go_wp2_with fail
  rw [← unhide HV]
  clear HV c6 c7 fz
  refine (unhide KR V2 (unhide Q2).1.bel).mono ?_
  rintro e w3 ⟨rfl, ht, b1⟩
  have s1 := (unhide Q2).1.bw b1
  have p1 := s1.poke 7 (.slice (some ⟨V2.heap.size, 0, none⟩) LR (LR + 2))
  obtain ⟨V3, hV3⟩ : ∃ V, V = w3.setCell ⟨w.heap.size, 7, none⟩ (.slice (some ⟨V2.heap.size, 0, none⟩) LR (LR + 2)) := ⟨_, rfl⟩
  rw [← hV3] at p1
  have kp : ∀ j, w.heap.size + 2 ≤ j → j < V2.heap.size → V3.heap[j]? = V2.heap[j]? := fun j h1 h2 => by rw [p1.2 j h1]; exact b1.block j h2
  have h2 := (unhide Q2).1.two
  have ht' := ht.keep (p1.2 _ h2)
  obtain ⟨q1, q2, q2b⟩ := (unhide Q2).2
  have hun : ∀ u ∈ us, u.ownBlock ≠ some V2.heap.size := fun u hu hk => by
    obtain ⟨j, hj⟩ := List.getElem?_of_mem hu
    have hjl : j < next.length := by have := (List.getElem?_eq_some_iff.1 hj).1; rw [q1.ul] at this; exact this
    obtain ⟨g, rfl, _, hT⟩ := q1.un j _ u (List.getElem?_eq_getElem hjl) hj
    have h3 := hT.lt
    have h4 : some g = some V2.heap.size := hk
    rw [Option.some.inj h4] at h3
    exact absurd h3 (Nat.lt_irrefl _)
  have Q3 : Hid (SC w V3 #[.int .i64 g0, .int .i64 g1, .int .i64 g2, .int .i64 g3, .int .i64 g4, .bool g5, (.slice (some ⟨V1.heap.size, 0, none⟩) LA (LA + 2)), (.slice (some ⟨V2.heap.size, 0, none⟩) LR (LR + 2)), .slice a3 LQ k3, .slice a4 LJ k4, .int .i64 g10, .int .i64 g11, (.slice (some ⟨gn, 0, none⟩) N (N + 2)), .int .i64 g13, .int .i64 g14] ∧ TwT (w.heap.size + 2) V3 gn next us ∧ TwR 3 131 V3 V1.heap.size adds ∧ w.heap.size + 2 ≤ V1.heap.size ∧ Twint V3 V2.heap.size rem ∧ w.heap.size + 2 ≤ V2.heap.size ∧ (∀ u ∈ us, u.ownBlock ≠ some V2.heap.size)) := ⟨p1.1, q1.keep (Nat.le_refl _) kp, q2.keep (kp _ q2b q2.lt), q2b, ht', h2, hun⟩
  have c7 : w3.cell? ⟨w.heap.size, 7, none⟩ = some (.slice a2 LR k2) := blk_c s1.k1 rfl
  have c8 : w3.cell? ⟨w.heap.size, 8, none⟩ = some (.slice a3 LQ k3) := blk_c s1.k1 rfl
  have fz := fun j => froz_b (i := j) s1.k1
  have HV := hide hV3
  clear ht ht' b1 s1 p1 kp h2 hV3 Q2 KR q1 q2 q2b hun
  go_wp2_with fail
  rw [← unhide HV]
  clear HV c7 c8 fz
  refine (unhide KQ V3 (unhide Q3).1.bel).mono ?_
  rintro e w4 ⟨rfl, ht, b1⟩
  have s1 := (unhide Q3).1.bw b1
  have p1 := s1.poke 8 (.slice (some ⟨V3.heap.size, 0, none⟩) LQ (LQ + 2))
  obtain ⟨V4, hV4⟩ : ∃ V, V = w4.setCell ⟨w.heap.size, 8, none⟩ (.slice (some ⟨V3.heap.size, 0, none⟩) LQ (LQ + 2)) := ⟨_, rfl⟩
  rw [← hV4] at p1
  have kp : ∀ j, w.heap.size + 2 ≤ j → j < V3.heap.size → V4.heap[j]? = V3.heap[j]? := fun j h1 h2 => by rw [p1.2 j h1]; exact b1.block j h2
  have h2 := (unhide Q3).1.two
  have ht' := ht.keep (p1.2 _ h2)
  obtain ⟨q1, q2, q2b, q3, q3b, q3c⟩ := (unhide Q3).2
  have Q4 : Hid (SC w V4 #[.int .i64 g0, .int .i64 g1, .int .i64 g2, .int .i64 g3, .int .i64 g4, .bool g5, (.slice (some ⟨V1.heap.size, 0, none⟩) LA (LA + 2)), (.slice (some ⟨V2.heap.size, 0, none⟩) LR (LR + 2)), (.slice (some ⟨V3.heap.size, 0, none⟩) LQ (LQ + 2)), .slice a4 LJ k4, .int .i64 g10, .int .i64 g11, (.slice (some ⟨gn, 0, none⟩) N (N + 2)), .int .i64 g13, .int .i64 g14] ∧ TwT (w.heap.size + 2) V4 gn next us ∧ TwR 3 131 V4 V1.heap.size adds ∧ w.heap.size + 2 ≤ V1.heap.size ∧ Twint V4 V2.heap.size rem ∧ w.heap.size + 2 ≤ V2.heap.size ∧ (∀ u ∈ us, u.ownBlock ≠ some V2.heap.size) ∧ TwR 3 133 V4 V3.heap.size seals ∧ w.heap.size + 2 ≤ V3.heap.size) := ⟨p1.1, q1.keep (Nat.le_refl _) kp, q2.keep (kp _ q2b q2.lt), q2b, q3.keep (kp _ q3b q3.lt), q3b, q3c, ht', h2⟩
  have c8 : w4.cell? ⟨w.heap.size, 8, none⟩ = some (.slice a3 LQ k3) := blk_c s1.k1 rfl
  have c9 : w4.cell? ⟨w.heap.size, 9, none⟩ = some (.slice a4 LJ k4) := blk_c s1.k1 rfl
  have fz := fun j => froz_b (i := j) s1.k1
  have HV := hide hV4
  clear ht ht' b1 s1 p1 kp h2 hV4 Q3 KQ q1 q2 q2b q3 q3b q3c
  go_wp2_with fail
  rw [← unhide HV]
  clear HV c8 c9 fz
  refine (unhide KJ V4 (unhide Q4).1.bel).mono ?_
  rintro e w5 ⟨rfl, ht, b1⟩
  have s1 := (unhide Q4).1.bw b1
  have p1 := s1.poke 9 (.slice (some ⟨V4.heap.size, 0, none⟩) LJ (LJ + 2))
  obtain ⟨V5, hV5⟩ : ∃ V, V = w5.setCell ⟨w.heap.size, 9, none⟩ (.slice (some ⟨V4.heap.size, 0, none⟩) LJ (LJ + 2)) := ⟨_, rfl⟩
  rw [← hV5] at p1
  have kp : ∀ j, w.heap.size + 2 ≤ j → j < V4.heap.size → V5.heap[j]? = V4.heap[j]? := fun j h1 h2 => by rw [p1.2 j h1]; exact b1.block j h2
  have h2 := (unhide Q4).1.two
  have ht' := ht.keep (p1.2 _ h2)
  obtain ⟨q1, q2, q2b, q3, q3b, q3c, q4, q4b⟩ := (unhide Q4).2
  have Q5 : Hid (SC w V5 #[.int .i64 g0, .int .i64 g1, .int .i64 g2, .int .i64 g3, .int .i64 g4, .bool g5, (.slice (some ⟨V1.heap.size, 0, none⟩) LA (LA + 2)), (.slice (some ⟨V2.heap.size, 0, none⟩) LR (LR + 2)), (.slice (some ⟨V3.heap.size, 0, none⟩) LQ (LQ + 2)), (.slice (some ⟨V4.heap.size, 0, none⟩) LJ (LJ + 2)), .int .i64 g10, .int .i64 g11, (.slice (some ⟨gn, 0, none⟩) N (N + 2)), .int .i64 g13, .int .i64 g14] ∧ TwT (w.heap.size + 2) V5 gn next us ∧ TwR 3 131 V5 V1.heap.size adds ∧ w.heap.size + 2 ≤ V1.heap.size ∧ Twint V5 V2.heap.size rem ∧ w.heap.size + 2 ≤ V2.heap.size ∧ (∀ u ∈ us, u.ownBlock ≠ some V2.heap.size) ∧ TwR 3 133 V5 V3.heap.size seals ∧ w.heap.size + 2 ≤ V3.heap.size ∧ TwR 2 135 V5 V4.heap.size joins ∧ w.heap.size + 2 ≤ V4.heap.size) := ⟨p1.1, q1.keep (Nat.le_refl _) kp, q2.keep (kp _ q2b q2.lt), q2b, q3.keep (kp _ q3b q3.lt), q3b, q3c, q4.keep (kp _ q4b q4.lt), q4b, ht', h2⟩
  have x9 : w5.cell? ⟨w.heap.size, 9, none⟩ = some (.slice a4 LJ k4) := blk_c s1.k1 rfl
  have fz := fun j => froz_b (i := j) s1.k1
  have HV := hide hV5
  clear ht ht' b1 s1 p1 kp h2 hV5 Q4 KJ q1 q2 q2b q3 q3b q3c q4 q4b
  obtain ⟨WZ, hWZ⟩ : ∃ W, W = pokes V5 (w.heap.size + 1) 0 [.int .i64 g0, .int .i64 g1, .int .i64 g2, .int .i64 g3, .int .i64 g4, .bool g5, (.slice (some ⟨V1.heap.size, 0, none⟩) LA (LA + 2)), (.slice (some ⟨V2.heap.size, 0, none⟩) LR (LR + 2)), (.slice (some ⟨V3.heap.size, 0, none⟩) LQ (LQ + 2)), (.slice (some ⟨V4.heap.size, 0, none⟩) LJ (LJ + 2)), .int .i64 g10, .int .i64 g11, (.slice (some ⟨gn, 0, none⟩) N (N + 2)), .int .i64 g13, .int .i64 g14] := ⟨_, rfl⟩
  have s5 := (unhide Q5).1
  have z : WZ.heap[w.heap.size + 1]? = some (.cells #[.int .i64 g0, .int .i64 g1, .int .i64 g2, .int .i64 g3, .int .i64 g4, .bool g5, (.slice (some ⟨V1.heap.size, 0, none⟩) LA (LA + 2)), (.slice (some ⟨V2.heap.size, 0, none⟩) LR (LR + 2)), (.slice (some ⟨V3.heap.size, 0, none⟩) LQ (LQ + 2)), (.slice (some ⟨V4.heap.size, 0, none⟩) LJ (LJ + 2)), .int .i64 g10, .int .i64 g11, (.slice (some ⟨gn, 0, none⟩) N (N + 2)), .int .i64 g13, .int .i64 g14] 34 (0, 0)) := by
    rw [hWZ, pokes_at _ _ _ _ s5.k2, pk_all (by rfl)]
  have hk : ∀ k, w.heap.size + 2 ≤ k → WZ.heap[k]? = V5.heap[k]? := fun k hk => by rw [hWZ, pokes_other (by omega)]
  have hb : Below w.heap.size w WZ := by rw [hWZ]; exact pokes_below (by omega) _ _ _ s5.bel
  have HF : Hid (TwC w.heap.size WZ ⟨g0, g1, g2, g3, g4, g5, adds, rem, seals, joins, g10, g11, next, g13, g14⟩ V1.heap.size V2.heap.size V3.heap.size V4.heap.size gn us ∧ Below w.heap.size w WZ) := by
    obtain ⟨q1, q2, q2b, q3, q3b, q3c, q4, q4b, q5, q5b⟩ := (unhide Q5).2
    have t : TwC (w.heap.size + 2) V5 ⟨g0, g1, g2, g3, g4, g5, adds, rem, seals, joins, g10, g11, next, g13, g14⟩ V1.heap.size V2.heap.size V3.heap.size V4.heap.size gn us := ⟨q2b, q3b, q4b, q5b, q2, q3, q4, q5, q1, q3c⟩
    exact ⟨t.keep (by omega) (fun k h1 _ => hk k h1), hb⟩
  have c0 : V5.cell? ⟨w.heap.size, 0, none⟩ = some (.int .i64 g0) := blk_c s5.k1 rfl
  have c1 : V5.cell? ⟨w.heap.size, 1, none⟩ = some (.int .i64 g1) := blk_c s5.k1 rfl
  have c2 : V5.cell? ⟨w.heap.size, 2, none⟩ = some (.int .i64 g2) := blk_c s5.k1 rfl
  have c3 : V5.cell? ⟨w.heap.size, 3, none⟩ = some (.int .i64 g3) := blk_c s5.k1 rfl
  have c4 : V5.cell? ⟨w.heap.size, 4, none⟩ = some (.int .i64 g4) := blk_c s5.k1 rfl
  have c5 : V5.cell? ⟨w.heap.size, 5, none⟩ = some (.bool g5) := blk_c s5.k1 rfl
  have c6 : V5.cell? ⟨w.heap.size, 6, none⟩ = some ((.slice (some ⟨V1.heap.size, 0, none⟩) LA (LA + 2))) := blk_c s5.k1 rfl
  have c7 : V5.cell? ⟨w.heap.size, 7, none⟩ = some ((.slice (some ⟨V2.heap.size, 0, none⟩) LR (LR + 2))) := blk_c s5.k1 rfl
  have c8 : V5.cell? ⟨w.heap.size, 8, none⟩ = some ((.slice (some ⟨V3.heap.size, 0, none⟩) LQ (LQ + 2))) := blk_c s5.k1 rfl
  have c9 : V5.cell? ⟨w.heap.size, 9, none⟩ = some ((.slice (some ⟨V4.heap.size, 0, none⟩) LJ (LJ + 2))) := blk_c s5.k1 rfl
  have c10 : V5.cell? ⟨w.heap.size, 10, none⟩ = some (.int .i64 g10) := blk_c s5.k1 rfl
  have c11 : V5.cell? ⟨w.heap.size, 11, none⟩ = some (.int .i64 g11) := blk_c s5.k1 rfl
  have c12 : V5.cell? ⟨w.heap.size, 12, none⟩ = some ((.slice (some ⟨gn, 0, none⟩) N (N + 2))) := blk_c s5.k1 rfl
  have c13 : V5.cell? ⟨w.heap.size, 13, none⟩ = some (.int .i64 g13) := blk_c s5.k1 rfl
  have c14 : V5.cell? ⟨w.heap.size, 14, none⟩ = some (.int .i64 g14) := blk_c s5.k1 rfl
  have d0 : V5.cell? ⟨w.heap.size + 1, 0, none⟩ = some (.int .i64 0) := blk_c s5.k2 rfl
  have d1 : V5.cell? ⟨w.heap.size + 1, 1, none⟩ = some (.int .i64 0) := blk_c s5.k2 rfl
  have d2 : V5.cell? ⟨w.heap.size + 1, 2, none⟩ = some (.int .i64 0) := blk_c s5.k2 rfl
  have d3 : V5.cell? ⟨w.heap.size + 1, 3, none⟩ = some (.int .i64 0) := blk_c s5.k2 rfl
  have d4 : V5.cell? ⟨w.heap.size + 1, 4, none⟩ = some (.int .i64 0) := blk_c s5.k2 rfl
  have d5 : V5.cell? ⟨w.heap.size + 1, 5, none⟩ = some (.bool false) := blk_c s5.k2 rfl
  have d6 : V5.cell? ⟨w.heap.size + 1, 6, none⟩ = some (.slice none 0 0) := blk_c s5.k2 rfl
  have d7 : V5.cell? ⟨w.heap.size + 1, 7, none⟩ = some (.slice none 0 0) := blk_c s5.k2 rfl
  have d8 : V5.cell? ⟨w.heap.size + 1, 8, none⟩ = some (.slice none 0 0) := blk_c s5.k2 rfl
  have d9 : V5.cell? ⟨w.heap.size + 1, 9, none⟩ = some (.slice none 0 0) := blk_c s5.k2 rfl
  have d10 : V5.cell? ⟨w.heap.size + 1, 10, none⟩ = some (.int .i64 0) := blk_c s5.k2 rfl
  have d11 : V5.cell? ⟨w.heap.size + 1, 11, none⟩ = some (.int .i64 0) := blk_c s5.k2 rfl
  have d12 : V5.cell? ⟨w.heap.size + 1, 12, none⟩ = some (.slice none 0 0) := blk_c s5.k2 rfl
  have d13 : V5.cell? ⟨w.heap.size + 1, 13, none⟩ = some (.int .i64 0) := blk_c s5.k2 rfl
  have d14 : V5.cell? ⟨w.heap.size + 1, 14, none⟩ = some (.int .i64 0) := blk_c s5.k2 rfl
  have z0 : WZ.cell? ⟨w.heap.size + 1, 0, none⟩ = some (.int .i64 g0) := blk_c z rfl
  have z1 : WZ.cell? ⟨w.heap.size + 1, 1, none⟩ = some (.int .i64 g1) := blk_c z rfl
  have z2 : WZ.cell? ⟨w.heap.size + 1, 2, none⟩ = some (.int .i64 g2) := blk_c z rfl
  have z3 : WZ.cell? ⟨w.heap.size + 1, 3, none⟩ = some (.int .i64 g3) := blk_c z rfl
  have z4 : WZ.cell? ⟨w.heap.size + 1, 4, none⟩ = some (.int .i64 g4) := blk_c z rfl
  have z5 : WZ.cell? ⟨w.heap.size + 1, 5, none⟩ = some (.bool g5) := blk_c z rfl
  have z6 : WZ.cell? ⟨w.heap.size + 1, 6, none⟩ = some ((.slice (some ⟨V1.heap.size, 0, none⟩) LA (LA + 2))) := blk_c z rfl
  have z7 : WZ.cell? ⟨w.heap.size + 1, 7, none⟩ = some ((.slice (some ⟨V2.heap.size, 0, none⟩) LR (LR + 2))) := blk_c z rfl
  have z8 : WZ.cell? ⟨w.heap.size + 1, 8, none⟩ = some ((.slice (some ⟨V3.heap.size, 0, none⟩) LQ (LQ + 2))) := blk_c z rfl
  have z9 : WZ.cell? ⟨w.heap.size + 1, 9, none⟩ = some ((.slice (some ⟨V4.heap.size, 0, none⟩) LJ (LJ + 2))) := blk_c z rfl
  have z10 : WZ.cell? ⟨w.heap.size + 1, 10, none⟩ = some (.int .i64 g10) := blk_c z rfl
  have z11 : WZ.cell? ⟨w.heap.size + 1, 11, none⟩ = some (.int .i64 g11) := blk_c z rfl
  have z12 : WZ.cell? ⟨w.heap.size + 1, 12, none⟩ = some ((.slice (some ⟨gn, 0, none⟩) N (N + 2))) := blk_c z rfl
  have z13 : WZ.cell? ⟨w.heap.size + 1, 13, none⟩ = some (.int .i64 g13) := blk_c z rfl
  have z14 : WZ.cell? ⟨w.heap.size + 1, 14, none⟩ = some (.int .i64 g14) := blk_c z rfl
  have fy := fun j => froz_b (i := j) s5.k2
  have HZ : Hid (WZ = (((((((((((((((V5.setCell ⟨w.heap.size + 1, 0, none⟩ (.int .i64 g0)).setCell ⟨w.heap.size + 1, 1, none⟩ (.int .i64 g1)).setCell ⟨w.heap.size + 1, 2, none⟩ (.int .i64 g2)).setCell ⟨w.heap.size + 1, 3, none⟩ (.int .i64 g3)).setCell ⟨w.heap.size + 1, 4, none⟩ (.int .i64 g4)).setCell ⟨w.heap.size + 1, 5, none⟩ (.bool g5)).setCell ⟨w.heap.size + 1, 6, none⟩ ((.slice (some ⟨V1.heap.size, 0, none⟩) LA (LA + 2)))).setCell ⟨w.heap.size + 1, 7, none⟩ ((.slice (some ⟨V2.heap.size, 0, none⟩) LR (LR + 2)))).setCell ⟨w.heap.size + 1, 8, none⟩ ((.slice (some ⟨V3.heap.size, 0, none⟩) LQ (LQ + 2)))).setCell ⟨w.heap.size + 1, 9, none⟩ ((.slice (some ⟨V4.heap.size, 0, none⟩) LJ (LJ + 2)))).setCell ⟨w.heap.size + 1, 10, none⟩ (.int .i64 g10)).setCell ⟨w.heap.size + 1, 11, none⟩ (.int .i64 g11)).setCell ⟨w.heap.size + 1, 12, none⟩ ((.slice (some ⟨gn, 0, none⟩) N (N + 2)))).setCell ⟨w.heap.size + 1, 13, none⟩ (.int .i64 g13)).setCell ⟨w.heap.size + 1, 14, none⟩ (.int .i64 g14))) := hWZ
  clear hWZ z hk hb s5 Q5
  go_upto_region 6 with fail
  rw [← unhide HV]
  clear HV x9 fz
  go_wp2_with fail
  rw [← unhide HZ]
  obtain ⟨hN, hA, hR, hQ, hJ⟩ := unhide HN
  refine bodyPost_ret (v := .agg #[.int .i64 g0, .int .i64 g1, .int .i64 g2, .int .i64 g3, .int .i64 g4, .bool g5, (.slice (some ⟨V1.heap.size, 0, none⟩) LA (LA + 2)), (.slice (some ⟨V2.heap.size, 0, none⟩) LR (LR + 2)), (.slice (some ⟨V3.heap.size, 0, none⟩) LQ (LQ + 2)), (.slice (some ⟨V4.heap.size, 0, none⟩) LJ (LJ + 2)), .int .i64 g10, .int .i64 g11, (.slice (some ⟨gn, 0, none⟩) N (N + 2)), .int .i64 g13, .int .i64 g14]) (by simp [results, Tryz.results27, go_sem, z0, z1, z2, z3, z4, z5, z6, z7, z8, z9, z10, z11, z12, z13, z14]) rfl ⟨V1.heap.size, V2.heap.size, V3.heap.size, V4.heap.size, gn, us, ?_, (unhide HF).1, (unhide HF).2⟩
  rw [hN, hA, hR, hQ, hJ]
  rfl
end Go.Proofs.YtnfhbmlmemifjaaGreatDoor

/- markCommit, isCommit, markLog, isLog. -/
namespace Go.Proofs.YtnfhbmlmemifjaaGreatDoor
open Go.RowKit Go.Maps
set_option maxRecDepth 100000 in
set_option maxHeartbeats 4000000 in
theorem markCommit_any (n : Nat) (w : World) (h : (n : Int) ≤ 1125899906842624) :
    Calls Tryz.prog 215 #[.int .i64 (n : Int)] w fun e w' => e = .returned (.agg #[.int .i64 0, .int .i64 (mkI n), .int .i64 0, .int .i64 0, .int .i64 0, .bool false, .slice none 0 0, .slice none 0 0, .slice none 0 0, .slice none 0 0, .int .i64 0, .int .i64 0, .slice none 0 0, .int .i64 0, .int .i64 0]) ∧ Below w.heap.size w w' := by
  have hm : -1000 - (n : Int) = mkI n := rfl
  go_enter Tryz.func215, Tryz.ntmps215
  go_wp2_with fail
  have z := heap_alloc_new w (.cells #[.int .i64 0, .int .i64 (mkI n), .int .i64 0, .int .i64 0, .int .i64 0, .bool false, .slice none 0 0, .slice none 0 0, .slice none 0 0, .slice none 0 0, .int .i64 0, .int .i64 0, .slice none 0 0, .int .i64 0, .int .i64 0] 34)
  have hb := bwA w (.cells #[.int .i64 0, .int .i64 (mkI n), .int .i64 0, .int .i64 0, .int .i64 0, .bool false, .slice none 0 0, .slice none 0 0, .slice none 0 0, .slice none 0 0, .int .i64 0, .int .i64 0, .slice none 0 0, .int .i64 0, .int .i64 0] 34)
  generalize w.alloc (.cells #[.int .i64 0, .int .i64 (mkI n), .int .i64 0, .int .i64 0, .int .i64 0, .bool false, .slice none 0 0, .slice none 0 0, .slice none 0 0, .slice none 0 0, .int .i64 0, .int .i64 0, .slice none 0 0, .int .i64 0, .int .i64 0] 34) = WZ at *
  have z0 := cell_of_blk z (o := 0) rfl; have z1 := cell_of_blk z (o := 1) rfl; have z2 := cell_of_blk z (o := 2) rfl; have z3 := cell_of_blk z (o := 3) rfl; have z4 := cell_of_blk z (o := 4) rfl; have z5 := cell_of_blk z (o := 5) rfl; have z6 := cell_of_blk z (o := 6) rfl; have z7 := cell_of_blk z (o := 7) rfl; have z8 := cell_of_blk z (o := 8) rfl; have z9 := cell_of_blk z (o := 9) rfl; have z10 := cell_of_blk z (o := 10) rfl; have z11 := cell_of_blk z (o := 11) rfl; have z12 := cell_of_blk z (o := 12) rfl; have z13 := cell_of_blk z (o := 13) rfl; have z14 := cell_of_blk z (o := 14) rfl
  exact bodyPost_ret (v := .agg #[.int .i64 0, .int .i64 (mkI n), .int .i64 0, .int .i64 0, .int .i64 0, .bool false, .slice none 0 0, .slice none 0 0, .slice none 0 0, .slice none 0 0, .int .i64 0, .int .i64 0, .slice none 0 0, .int .i64 0, .int .i64 0]) (by simp [results, Tryz.results215, go_sem, z0, z1, z2, z3, z4, z5, z6, z7, z8, z9, z10, z11, z12, z13, z14]) rfl ⟨rfl, hb⟩
set_option maxRecDepth 100000 in
set_option maxHeartbeats 4000000 in
theorem isCommit_any (n : Nat) (w : World) (h : (n : Int) ≤ 1125899906842624) :
    Calls Tryz.prog 247 #[.agg #[.int .i64 0, .int .i64 (mkI n), .int .i64 0, .int .i64 0, .int .i64 0, .bool false, .slice none 0 0, .slice none 0 0, .slice none 0 0, .slice none 0 0, .int .i64 0, .int .i64 0, .slice none 0 0, .int .i64 0, .int .i64 0], .int .i64 (n : Int)] w fun e w' => e = .returned (.bool true) ∧ Below w.heap.size w w' := by
  have hm : -1000 - (n : Int) = mkI n := rfl
  go_enter Tryz.func247, Tryz.ntmps247
  go_wp2
  go_ret
  exact ⟨rfl, bwA _ _⟩
set_option maxRecDepth 100000 in
set_option maxHeartbeats 4000000 in
theorem markLog_any (n : Nat) (w : World) (h : (n : Int) ≤ 1125899906842624) :
    Calls Tryz.prog 34 #[.int .i64 (n : Int)] w fun e w' => e = .returned (.agg #[.int .i64 (mkI n), .slice none 0 0]) ∧ Below w.heap.size w w' := by
  have hm : -1000 - (n : Int) = mkI n := rfl
  go_enter Tryz.func34, Tryz.ntmps34
  go_wp2_with fail
  have z := heap_alloc_new w (.cells #[.int .i64 (mkI n), .slice none 0 0] 95)
  have hb := bwA w (.cells #[.int .i64 (mkI n), .slice none 0 0] 95)
  generalize w.alloc (.cells #[.int .i64 (mkI n), .slice none 0 0] 95) = WZ at *
  have z0 := cell_of_blk z (o := 0) rfl; have z1 := cell_of_blk z (o := 1) rfl
  exact bodyPost_ret (v := .agg #[.int .i64 (mkI n), .slice none 0 0]) (by simp [results, Tryz.results34, go_sem, z0, z1]) rfl ⟨rfl, hb⟩
set_option maxRecDepth 100000 in
set_option maxHeartbeats 4000000 in
theorem isLog_any (n : Nat) (w : World) (h : (n : Int) ≤ 1125899906842624) :
    Calls Tryz.prog 50 #[.agg #[.int .i64 (mkI n), .slice none 0 0], .int .i64 (n : Int)] w fun e w' => e = .returned (.bool true) ∧ Below w.heap.size w w' := by
  have hm : -1000 - (n : Int) = mkI n := rfl
  go_enter Tryz.func50, Tryz.ntmps50
  go_wp2
  go_ret
  exact ⟨rfl, bwA _ _⟩
end Go.Proofs.YtnfhbmlmemifjaaGreatDoor

/- Commits' copies in one block, with marks behind them: what they are in memory. No walk is in this text. -/
namespace Go.Proofs.YtnfhbmlmemifjaaGreatDoor
open Go.RowKit Go.Maps
structure Pl where
  ga : Nat
  gr : Nat
  gq : Nat
  gj : Nat
  gn : Nat
  us : List Value
def Pl.blocks (p : Pl) : List Nat := p.ga :: p.gr :: p.gq :: p.gj :: p.gn :: p.us.filterMap Value.ownBlock
def Pl.tw (p : Pl) (B : Nat) (W : World) (c : Cm) : Prop := TwC B W c p.ga p.gr p.gq p.gj p.gn p.us
def Pl.row (p : Pl) (c : Cm) : List Value := cmC c (twX c p.ga p.gr p.gq p.gj p.gn)
theorem Pl.un {p : Pl} {B : Nat} {W : World} {c : Cm} (h : p.tw B W c) {k : Nat} (hk : k ∈ p.us.filterMap Value.ownBlock) : B ≤ k ∧ k < W.heap.size := by
  obtain ⟨u, hu, hk⟩ := List.mem_filterMap.1 hk
  obtain ⟨j, hj⟩ := List.getElem?_of_mem hu
  have hjl : j < c.next.length := by have := (List.getElem?_eq_some_iff.1 hj).1; rw [h.next.ul] at this; exact this
  obtain ⟨g, rfl, h2, hT⟩ := h.next.un j _ u (List.getElem?_eq_getElem hjl) hj
  have h4 : some g = some k := hk
  rw [← Option.some.inj h4]
  exact ⟨h2, hT.lt⟩
theorem Pl.range {p : Pl} {B : Nat} {W : World} {c : Cm} (h : p.tw B W c) {k : Nat} (hk : k ∈ p.blocks) : B ≤ k ∧ k < W.heap.size := by
  simp only [Pl.blocks, List.mem_cons] at hk
  rcases hk with rfl | rfl | rfl | rfl | rfl | hk
  · exact ⟨h.la, h.adds.lt⟩
  · exact ⟨h.lr, h.rem.lt⟩
  · exact ⟨h.lq, h.seals.lt⟩
  · exact ⟨h.lj, h.joins.lt⟩
  · exact ⟨h.next.low, (World.ownsRow.lt h.next.own p.gn rfl).2⟩
  · exact Pl.un h hk
def cmZ : List Value := cm0.toList
def cmM (n : Nat) : List Value := cmC ⟨0, mkI n, 0, 0, 0, false, [], [], [], [], 0, 0, [], 0, 0⟩ ⟨.slice none 0 0, .slice none 0 0, .slice none 0 0, .slice none 0 0, .slice none 0 0⟩
def rowsL (l : List Cm) (ps : List Pl) : List (List Value) := List.zipWith (fun c p => Pl.row p c) l ps
theorem rowsL_all : ∀ (l : List Cm) (ps : List Pl), ∀ r ∈ rowsL l ps, r.length = 15
  | [], _ => by simp [rowsL]
  | _ :: _, [] => by simp [rowsL]
  | c :: l, p :: ps => fun r hr => by
    rw [show rowsL (c :: l) (p :: ps) = p.row c :: rowsL l ps from rfl] at hr
    rcases List.mem_cons.1 hr with d | d
    · rw [d]; rfl
    · exact rowsL_all l ps r d
theorem rowsL_len {l : List Cm} {ps : List Pl} : ∀ r ∈ rowsL l ps, r.length = 15 := rowsL_all l ps
theorem rowsL_snoc : ∀ (l : List Cm) (ps : List Pl) (c : Cm) (p : Pl), l[ps.length]? = some c → rowsL l (ps ++ [p]) = rowsL l ps ++ [p.row c]
  | [], ps, c, p, h => by simp at h
  | d :: l, [], c, p, h => by
    simp at h; subst h
    simp [rowsL]
  | d :: l, q :: ps, c, p, h => by
    rw [List.length_cons, List.getElem?_cons_succ] at h
    show q.row d :: rowsL l (ps ++ [p]) = q.row d :: (rowsL l ps ++ [p.row c])
    rw [rowsL_snoc l ps c p h]
structure TwL (w W : World) (l : List Cm) (ps : List Pl) (m : List (List Value)) : Prop where
  pl : ps.length ≤ l.length
  blk : W.heap[w.heap.size]? = some (.cells (rowsL l ps ++ m).flatten.toArray 34 (0, 0))
  ml : ∀ r ∈ m, r.length = 15
  each : ∀ (j : Nat) (c : Cm) (p : Pl), l[j]? = some c → ps[j]? = some p → p.tw (w.heap.size + 1) W c
  apart : ∀ (i j : Nat) (p q : Pl) (k : Nat), ps[i]? = some p → ps[j]? = some q → k ∈ p.blocks → k ∈ q.blocks → i = j
  bel : Below w.heap.size w W
theorem rowsL_size {l : List Cm} {ps : List Pl} (h : ps.length ≤ l.length) : (rowsL l ps).length = ps.length := by simp [rowsL]; omega
theorem TwL.bw {w W W' : World} {l : List Cm} {ps : List Pl} {m : List (List Value)} (h : TwL w W l ps m) (hb : Below W.heap.size W W') : TwL w W' l ps m :=
  ⟨h.pl, kept_b h.blk (lt_of_blk h.blk) hb, h.ml, fun j c p h1 h2 => (h.each j c p h1 h2).bw hb, h.apart, bw_tr h.bel hb⟩
theorem TwL.lt {w W : World} {l : List Cm} {ps : List Pl} {m : List (List Value)} (h : TwL w W l ps m) : w.heap.size < W.heap.size := lt_of_blk h.blk
theorem TwL.put {w W : World} {l : List Cm} {ps : List Pl} {m : List (List Value)} (h : TwL w W l ps m) (k : Nat) (hk : k < m.length) (vs : List Value) (hv : vs.length = 15) : TwL w (pokes W w.heap.size ((ps.length + k) * 15) vs) l ps (m.set k vs) := by
  have hr : ∀ r ∈ rowsL l ps ++ m, r.length = 15 := fun r hr => by
    rcases List.mem_append.1 hr with d | d
    · exact rowsL_len r d
    · exact h.ml r d
  have hz := rowsL_size h.pl
  refine ⟨h.pl, ?_, fun r hr => ?_, fun j c p h1 h2 => ?_, h.apart, pokes_below (Nat.le_refl _) _ _ _ h.bel⟩
  · rw [pokes_at _ _ _ _ h.blk, fl_set (by omega) hr (by rw [List.length_append, hz]; omega) hv, List.set_append_right _ _ (by omega), hz, Nat.add_sub_cancel_left]
  · rcases List.mem_or_eq_of_mem_set hr with d | d
    · exact h.ml r d
    · rw [d]; exact hv
  · exact TwC.keep (h.each j c p h1 h2) (Nat.le_refl _) (fun k hk _ => pokes_other (by omega) _ _ _)
theorem TwL.next {w W W' : World} {l : List Cm} {ps : List Pl} {m : List (List Value)} {c : Cm} {p : Pl} (h : TwL w W l ps (cmZ :: m)) (hb : Below W.heap.size W W') (hc : l[ps.length]? = some c) (ht : p.tw W.heap.size W' c) : TwL w (pokes W' w.heap.size (ps.length * 15) (p.row c)) l (ps ++ [p]) m := by
  have h1 := (h.bw hb).put 0 (by simp) (p.row c) rfl
  rw [Nat.add_zero, List.set_cons_zero] at h1
  have hcl := (List.getElem?_eq_some_iff.1 hc).1
  have hrow := rowsL_snoc l ps c p hc
  refine ⟨by simp; omega, ?_, fun r hr => h.ml r (by simp [hr]), fun j c' p' e1 e2 => ?_, fun i j p1 p2 k e1 e2 k1 k2 => ?_, h1.bel⟩
  · rw [h1.blk, hrow, List.append_assoc]; rfl
  · rcases Nat.lt_or_ge j ps.length with d | d
    · rw [List.getElem?_append_left d] at e2
      exact h1.each j c' p' e1 e2
    · have hj : j = ps.length := by
        have := (List.getElem?_eq_some_iff.1 e2).1
        simp at this; omega
      subst hj
      rw [hc] at e1
      simp at e2
      cases e1; cases e2
      exact TwC.keep ht h.lt (fun k hk _ => pokes_other (by have := h.lt; omega) _ _ _)
  · have hlow : ∀ (i : Nat) (p' : Pl) (k : Nat), i < ps.length → (ps ++ [p])[i]? = some p' → k ∈ p'.blocks → k < W.heap.size := fun i p' k d e hk => by
      rw [List.getElem?_append_left d] at e
      have hpl := h.pl
      obtain ⟨c', hc'⟩ : ∃ c', l[i]? = some c' := ⟨_, List.getElem?_eq_getElem (by omega)⟩
      exact (Pl.range (h.each i c' p' hc' e) hk).2
    have hhigh : ∀ (i : Nat) (p' : Pl) (k : Nat), ¬ i < ps.length → (ps ++ [p])[i]? = some p' → k ∈ p'.blocks → i = ps.length ∧ W.heap.size ≤ k := fun i p' k d e hk => by
      have hi : i = ps.length := by
        have := (List.getElem?_eq_some_iff.1 e).1
        simp at this; omega
      subst hi
      simp at e
      cases e
      exact ⟨rfl, (Pl.range ht hk).1⟩
    by_cases d1 : i < ps.length
    · by_cases d2 : j < ps.length
      · rw [List.getElem?_append_left d1] at e1
        rw [List.getElem?_append_left d2] at e2
        exact h.apart i j p1 p2 k e1 e2 k1 k2
      · have := hlow i p1 k d1 e1 k1
        have := (hhigh j p2 k d2 e2 k2).2
        omega
    · by_cases d2 : j < ps.length
      · have := hlow j p2 k d2 e2 k2
        have := (hhigh i p1 k d1 e1 k1).2
        omega
      · rw [(hhigh i p1 k d1 e1 k1).1, (hhigh j p2 k d2 e2 k2).1]
theorem made_cms (m : Nat) : (madeCells (Value.agg cm0).cells (m * 15)).toList = (List.replicate m cmZ).flatten := by
  have hall : ∀ q ∈ List.replicate m cmZ, q.length = 15 := fun q hq => by have := List.eq_of_mem_replicate hq; subst this; rfl
  apply List.ext_getElem?
  intro i
  obtain ⟨q, r, hr, rfl⟩ : ∃ q r, r < 15 ∧ i = q * 15 + r := ⟨i / 15, i % 15, Nat.mod_lt _ (by omega), by rw [Nat.mul_comm]; exact (Nat.div_add_mod i 15).symm⟩
  rw [fl_get hall hr]
  rcases Nat.lt_or_ge q m with h | h
  · have e2 : (q * 15 + r) % 15 = r := by omega
    have h3 : q * 15 + r < m * 15 := by omega
    have e4 : (List.replicate m cmZ)[q]? = some cmZ := by simp [h]
    rw [e4]
    have hcz : cm0.size = 15 := rfl
    simp [madeCells, Value.cells, h3, hcz, e2, cmZ]
    rw [Array.getElem?_eq_getElem (by rw [hcz]; exact hr)]
    simp [hcz, hr]
  · rw [List.getElem?_eq_none (by simp [madeCells]; omega)]
    have e4 : (List.replicate m cmZ)[q]? = none := by simp [h]
    rw [e4]; rfl
end Go.Proofs.YtnfhbmlmemifjaaGreatDoor

/- TwinCommits: a list of commits, copied. -/
namespace Go.Proofs.YtnfhbmlmemifjaaGreatDoor
open Go.RowKit Go.Maps
structure CmB (c : Cm) : Prop where
  a : c.adds.length ≤ 262144
  r : c.rem.length ≤ 262144
  q : c.seals.length ≤ 262144
  j : c.joins.length ≤ 262144
  n : c.next.length ≤ 262144
  u : ∀ n ∈ c.next, n.un.length ≤ 262144
theorem twinpl_any {w : World} {c : Cm} {x : Cv} (h : CmR w c x) (hB : CmB c) :
    Calls Tryz.prog 27 #[cmV c x] w fun e w' => ∃ p : Pl, e = .returned (.agg (p.row c).toArray) ∧ p.tw w.heap.size w' c ∧ Below w.heap.size w w' := by
  refine (twincm_any h hB.a hB.r hB.q hB.j hB.n hB.u).mono ?_
  rintro e w' ⟨ga, gr, gq, gj, gn, us, rfl, ht, hb⟩
  exact ⟨⟨ga, gr, gq, gj, gn, us⟩, rfl, ht, hb⟩
theorem TwL.at {w W : World} {l : List Cm} {ps : List Pl} {m : List (List Value)} (h : TwL w W l ps m) {k : Nat} {r : List Value} (hk : m[k]? = some r) {x : Nat} (hx : x = ps.length + k) {j : Nat} (hj : j < 15) {v : Value} (hv : r[j]? = some v) : W.cell? ⟨w.heap.size, x * 15 + j, none⟩ = some v := by
  refine blk_c h.blk ?_
  have hr : ∀ r ∈ rowsL l ps ++ m, r.length = 15 := fun r hr => by
    rcases List.mem_append.1 hr with d | d
    · exact rowsL_len r d
    · exact h.ml r d
  rw [List.getElem?_toArray, fl_get hr hj, hx, List.getElem?_append_right (by rw [rowsL_size h.pl]; omega), rowsL_size h.pl, Nat.add_sub_cancel_left, hk]
  exact hv
theorem Tryz.infoCommit : (Tryz.prog.info? 34).map (fun i => (i.zero, i.size, i.bytes)) = some (some (.agg cm0), 15, 200) := by kernel_rfl
theorem slice_roomCommit (w : World) (g n cap i : Nat) (hi : i ≤ cap) : (Instr.slice 93 (.slice (some ⟨g, 0, none⟩) n cap) none (some (.int .i64 (i : Int))) none).run Tryz.prog w = .ok (.slice (some ⟨g, 0, none⟩) i cap) w := by
  have ht : Tryz.prog.underlying 93 = some (.slice (Tryz.prog.elem 93)) := by kernel_rfl
  have he : Tryz.prog.elem 93 = 34 := by kernel_rfl
  have hs : (Go.sizeOf 34).run Tryz.prog w = .ok 15 w := by kernel_rfl
  rw [run_slice_h (P := Tryz.prog) w 93 (some ⟨g, 0, none⟩) n cap ht .i64 i (by omega) (by omega), he, hs]
  simp [Result.andThen, sliced, Addr.add]
theorem TwL.start (w : World) (l : List Cm) : TwL w (w.alloc (.cells (madeCells (Value.agg cm0).cells ((l.length + 2) * 15)) 34)) l [] (List.replicate (l.length + 2) cmZ) := by
  refine ⟨by simp, ?_, fun r hr => by rw [List.eq_of_mem_replicate hr]; rfl, by simp, by simp, bwA _ _⟩
  rw [heap_alloc_new]
  have h := made_cms (l.length + 2)
  have e : rowsL l [] = [] := by simp [rowsL]
  rw [e, List.nil_append, ← h]
set_option maxRecDepth 100000 in
set_option maxHeartbeats 8000000 in
theorem twincms_any (w : World) (v : Value) (l : List Cm) (h : Cms w v l) (hl : l.length ≤ 262144) (hB : ∀ c ∈ l, CmB c) :
    Calls Tryz.prog 176 #[v] w fun e w' => ∃ ps, e = .returned (.slice (some ⟨w.heap.size, 0, none⟩) l.length (l.length + 2)) ∧ ps.length = l.length ∧ TwL w w' l ps [cmM l.length, cmM (l.length + 1)] ∧ Below w.heap.size w w' := by
  obtain ⟨a, c, rfl⟩ := h.slice
  obtain ⟨i0, hi, hz0, hz1, hz2⟩ := info_parts Tryz.infoCommit
  have hmk := run_makeSlice (P := Tryz.prog) w 93 34 i0 (.agg cm0) Tryz.underlying93 hi hz0 .i64 .i64 (l.length : Int) ((l.length : Int) + 2) (by omega) (by omega) (by rw [hz1]; omega) (by rw [hz2]; omega) (by omega)
  rw [hz1] at hmk
  have e2 : ((l.length : Int) + 2).toNat = l.length + 2 := by omega
  rw [e2, Int.toNat_natCast] at hmk
  have hS0 := hide (TwL.start w l)
  generalize madeCells (Value.agg cm0).cells ((l.length + 2) * 15) = mc at *
  have HC : Hid (∀ i, i < l.length → ∃ b o cm g0 g1 g2 g3 g4 g5 g10 g11 g13 g14 a1 LA k1 a2 LR k2 a3 LQ k3 a4 LJ k4 a5 LN k5, a = some ⟨b, o, none⟩ ∧ l[i]? = some cm ∧ ∀ W, Below w.heap.size w W → (W.cell? ⟨b, o + i * 15, none⟩ = some (.int .i64 g0) ∧ W.cell? ⟨b, o + i * 15 + 1, none⟩ = some (.int .i64 g1) ∧ W.cell? ⟨b, o + i * 15 + 2, none⟩ = some (.int .i64 g2) ∧ W.cell? ⟨b, o + i * 15 + 3, none⟩ = some (.int .i64 g3) ∧ W.cell? ⟨b, o + i * 15 + 4, none⟩ = some (.int .i64 g4) ∧ W.cell? ⟨b, o + i * 15 + 5, none⟩ = some (.bool g5) ∧ W.cell? ⟨b, o + i * 15 + 6, none⟩ = some (.slice a1 LA k1) ∧ W.cell? ⟨b, o + i * 15 + 7, none⟩ = some (.slice a2 LR k2) ∧ W.cell? ⟨b, o + i * 15 + 8, none⟩ = some (.slice a3 LQ k3) ∧ W.cell? ⟨b, o + i * 15 + 9, none⟩ = some (.slice a4 LJ k4) ∧ W.cell? ⟨b, o + i * 15 + 10, none⟩ = some (.int .i64 g10) ∧ W.cell? ⟨b, o + i * 15 + 11, none⟩ = some (.int .i64 g11) ∧ W.cell? ⟨b, o + i * 15 + 12, none⟩ = some (.slice a5 LN k5) ∧ W.cell? ⟨b, o + i * 15 + 13, none⟩ = some (.int .i64 g13) ∧ W.cell? ⟨b, o + i * 15 + 14, none⟩ = some (.int .i64 g14)) ∧
      Calls Tryz.prog 27 #[.agg #[.int .i64 g0, .int .i64 g1, .int .i64 g2, .int .i64 g3, .int .i64 g4, .bool g5, .slice a1 LA k1, .slice a2 LR k2, .slice a3 LQ k3, .slice a4 LJ k4, .int .i64 g10, .int .i64 g11, .slice a5 LN k5, .int .i64 g13, .int .i64 g14]] W fun x w' => ∃ (p : Pl) (ga gr gq gj gn : Nat), x = .returned (.agg #[.int .i64 g0, .int .i64 g1, .int .i64 g2, .int .i64 g3, .int .i64 g4, .bool g5, .slice (some ⟨ga, 0, none⟩) LA (LA + 2), .slice (some ⟨gr, 0, none⟩) LR (LR + 2), .slice (some ⟨gq, 0, none⟩) LQ (LQ + 2), .slice (some ⟨gj, 0, none⟩) LJ (LJ + 2), .int .i64 g10, .int .i64 g11, .slice (some ⟨gn, 0, none⟩) LN (LN + 2), .int .i64 g13, .int .i64 g14]) ∧ Hid (p.tw W.heap.size w' cm ∧ p.row cm = [.int .i64 g0, .int .i64 g1, .int .i64 g2, .int .i64 g3, .int .i64 g4, .bool g5, .slice (some ⟨ga, 0, none⟩) LA (LA + 2), .slice (some ⟨gr, 0, none⟩) LR (LR + 2), .slice (some ⟨gq, 0, none⟩) LQ (LQ + 2), .slice (some ⟨gj, 0, none⟩) LJ (LJ + 2), .int .i64 g10, .int .i64 g11, .slice (some ⟨gn, 0, none⟩) LN (LN + 2), .int .i64 g13, .int .i64 g14]) ∧ Below W.heap.size W w') := fun i hi => by
    obtain ⟨cm, hcm⟩ : ∃ cm, l[i]? = some cm := ⟨_, List.getElem?_eq_getElem hi⟩
    obtain ⟨b, o, e, x, hx, hc⟩ := h.get hcm
    obtain ⟨a1, k1, e1⟩ := hx.adds.slice
    obtain ⟨a2, k2, e2⟩ := nums_slice hx.rem
    obtain ⟨a3, k3, e3⟩ := hx.seals.slice
    obtain ⟨a4, k4, e4⟩ := hx.joins.slice
    obtain ⟨a5, k5, e5⟩ := hx.next.slice
    refine ⟨b, o, cm, cm.gr, cm.ep, cm.dev, cm.mem, cm.ke, cm.ext, cm.own, cm.ent, cm.face, cm.card, a1, cm.adds.length, k1, a2, cm.rem.length, k2, a3, cm.seals.length, k3, a4, cm.joins.length, k4, a5, cm.next.length, k5, e, hcm, fun W hW => ⟨?_, ?_⟩⟩
    · have hd : ∀ j u, (cmC cm x)[j]? = some u → W.cell? ⟨b, o + i * 15 + j, none⟩ = some u := fun j u hj => by
        rw [hW.cell (World.block_lt_of_cell? w _ (hc j u hj))]; exact hc j u hj
      rw [← e1, ← e2, ← e3, ← e4, ← e5]
      exact ⟨hd 0 _ rfl, hd 1 _ rfl, hd 2 _ rfl, hd 3 _ rfl, hd 4 _ rfl, hd 5 _ rfl, hd 6 _ rfl, hd 7 _ rfl, hd 8 _ rfl, hd 9 _ rfl, hd 10 _ rfl, hd 11 _ rfl, hd 12 _ rfl, hd 13 _ rfl, hd 14 _ rfl⟩
    · have K := twinpl_any (hx.bw hW) (hB cm (List.mem_of_getElem? hcm))
      unfold cmV cmC at K
      rw [e1, e2, e3, e4, e5] at K
      refine Calls.mono K ?_
      rintro y w' ⟨p, rfl, ht, hb⟩
      exact ⟨p, p.ga, p.gr, p.gq, p.gj, p.gn, rfl, ⟨ht, rfl⟩, hb⟩
  obtain ⟨N, hN⟩ : ∃ N, N = l.length := ⟨_, rfl⟩
  have HN := hide hN
  rw [← hN] at hmk HC hS0 ⊢
  have hNI : (N : Int) ≤ 262144 := by omega
  have hsl : ∀ W, (Instr.slice 93 (.slice (some ⟨w.heap.size, 0, none⟩) N (N + 2)) none (some (.int .i64 ((N : Int) + 2))) none).run Tryz.prog W = .ok (.slice (some ⟨w.heap.size, 0, none⟩) (N + 2) (N + 2)) W := fun W => by
    have := slice_roomCommit W w.heap.size N (N + 2) (N + 2) (Nat.le_refl _)
    exact this
  clear e2 hi hz0 hz1 hz2 h hl hB hN
  go_enter Tryz.func176, Tryz.ntmps176
  go_wp2_with fail
  go_loopw [15] (fun iv wr => ∃ (i : Nat) (ps : List Pl), iv = .int .i64 (i : Int) ∧ i ≤ N ∧ Hid (ps.length = i ∧ TwL w wr l ps (List.replicate (N + 2 - i) cmZ))) (fun iv _ => (N - (intOf iv)).toNat)
  case atStart => exact ⟨0, [], rfl, by omega, rfl, unhide hS0⟩
  case round =>
    clear hS0
    obtain ⟨i, ps, rfl, hi, hS⟩ := hrel
    by_cases hin : i < N
    · obtain ⟨b, o, cm, g0, g1, g2, g3, g4, g5, g10, g11, g13, g14, a1, LA, k1, a2, LR, k2, a3, LQ, k3, a4, LJ, k4, a5, LN, k5, rfl, t1, hc⟩ := unhide HC i hin
      obtain ⟨⟨c0, c1, c2, c3, c4, c5, c6, c7, c8, c9, c10, c11, c12, c13, c14⟩, K⟩ := hc _ (unhide hS).2.bel
      have q1 : (i : Int) < (N : Int) := by omega
      have q0 : (0 : Int) ≤ (i : Int) := by omega
      have HT := hide t1
      clear t1 hc
      go_wp2_with fail
      refine K.mono ?_
      rintro x w2 ⟨p, ga, gr, gq, gj, gn, rfl, hTw, b2⟩
      have hZ : List.replicate (N + 2 - i) cmZ = cmZ :: List.replicate (N + 2 - (i + 1)) cmZ := by
        rw [show N + 2 - i = (N + 2 - (i + 1)) + 1 by omega, List.replicate_succ]
      have hS1 := (unhide hS).2
      rw [hZ] at hS1
      have hS2 := hS1.bw b2
      have hpl := (unhide hS).1
      have d0 : w2.cell? ⟨w.heap.size, i * 15, none⟩ = some (.int .i64 0) := hS2.at (k := 0) (j := 0) rfl hpl.symm (by omega) rfl
      have d1 : w2.cell? ⟨w.heap.size, i * 15 + 1, none⟩ = some (.int .i64 0) := hS2.at (k := 0) (j := 1) rfl hpl.symm (by omega) rfl
      have d2 : w2.cell? ⟨w.heap.size, i * 15 + 2, none⟩ = some (.int .i64 0) := hS2.at (k := 0) (j := 2) rfl hpl.symm (by omega) rfl
      have d3 : w2.cell? ⟨w.heap.size, i * 15 + 3, none⟩ = some (.int .i64 0) := hS2.at (k := 0) (j := 3) rfl hpl.symm (by omega) rfl
      have d4 : w2.cell? ⟨w.heap.size, i * 15 + 4, none⟩ = some (.int .i64 0) := hS2.at (k := 0) (j := 4) rfl hpl.symm (by omega) rfl
      have d5 : w2.cell? ⟨w.heap.size, i * 15 + 5, none⟩ = some (.bool false) := hS2.at (k := 0) (j := 5) rfl hpl.symm (by omega) rfl
      have d6 : w2.cell? ⟨w.heap.size, i * 15 + 6, none⟩ = some (.slice none 0 0) := hS2.at (k := 0) (j := 6) rfl hpl.symm (by omega) rfl
      have d7 : w2.cell? ⟨w.heap.size, i * 15 + 7, none⟩ = some (.slice none 0 0) := hS2.at (k := 0) (j := 7) rfl hpl.symm (by omega) rfl
      have d8 : w2.cell? ⟨w.heap.size, i * 15 + 8, none⟩ = some (.slice none 0 0) := hS2.at (k := 0) (j := 8) rfl hpl.symm (by omega) rfl
      have d9 : w2.cell? ⟨w.heap.size, i * 15 + 9, none⟩ = some (.slice none 0 0) := hS2.at (k := 0) (j := 9) rfl hpl.symm (by omega) rfl
      have d10 : w2.cell? ⟨w.heap.size, i * 15 + 10, none⟩ = some (.int .i64 0) := hS2.at (k := 0) (j := 10) rfl hpl.symm (by omega) rfl
      have d11 : w2.cell? ⟨w.heap.size, i * 15 + 11, none⟩ = some (.int .i64 0) := hS2.at (k := 0) (j := 11) rfl hpl.symm (by omega) rfl
      have d12 : w2.cell? ⟨w.heap.size, i * 15 + 12, none⟩ = some (.slice none 0 0) := hS2.at (k := 0) (j := 12) rfl hpl.symm (by omega) rfl
      have d13 : w2.cell? ⟨w.heap.size, i * 15 + 13, none⟩ = some (.int .i64 0) := hS2.at (k := 0) (j := 13) rfl hpl.symm (by omega) rfl
      have d14 : w2.cell? ⟨w.heap.size, i * 15 + 14, none⟩ = some (.int .i64 0) := hS2.at (k := 0) (j := 14) rfl hpl.symm (by omega) rfl
      have fz := fun j => froz_b (i := j) hS2.blk
      have HX : Hid ((ps ++ [p]).length = i + 1 ∧ TwL w (((((((((((((((w2.setCell ⟨w.heap.size, i * 15, none⟩ (.int .i64 g0)).setCell ⟨w.heap.size, i * 15 + 1, none⟩ (.int .i64 g1)).setCell ⟨w.heap.size, i * 15 + 2, none⟩ (.int .i64 g2)).setCell ⟨w.heap.size, i * 15 + 3, none⟩ (.int .i64 g3)).setCell ⟨w.heap.size, i * 15 + 4, none⟩ (.int .i64 g4)).setCell ⟨w.heap.size, i * 15 + 5, none⟩ (.bool g5)).setCell ⟨w.heap.size, i * 15 + 6, none⟩ (.slice (some ⟨ga, 0, none⟩) LA (LA + 2))).setCell ⟨w.heap.size, i * 15 + 7, none⟩ (.slice (some ⟨gr, 0, none⟩) LR (LR + 2))).setCell ⟨w.heap.size, i * 15 + 8, none⟩ (.slice (some ⟨gq, 0, none⟩) LQ (LQ + 2))).setCell ⟨w.heap.size, i * 15 + 9, none⟩ (.slice (some ⟨gj, 0, none⟩) LJ (LJ + 2))).setCell ⟨w.heap.size, i * 15 + 10, none⟩ (.int .i64 g10)).setCell ⟨w.heap.size, i * 15 + 11, none⟩ (.int .i64 g11)).setCell ⟨w.heap.size, i * 15 + 12, none⟩ (.slice (some ⟨gn, 0, none⟩) LN (LN + 2))).setCell ⟨w.heap.size, i * 15 + 13, none⟩ (.int .i64 g13)).setCell ⟨w.heap.size, i * 15 + 14, none⟩ (.int .i64 g14)) l (ps ++ [p]) (List.replicate (N + 2 - (i + 1)) cmZ)) := by
        refine ⟨by simp [hpl], ?_⟩
        have := hS1.next b2 (by rw [hpl]; exact unhide HT) (unhide hTw).1
        rw [hpl, (unhide hTw).2] at this
        exact this
      clear c0 c1 c2 c3 c4 c5 c6 c7 c8 c9 c10 c11 c12 c13 c14 K hS hS1 hS2 hTw hZ hpl b2
      go_wp2_with fail
      go_roundw
      case rel => exact ⟨i + 1, _, by go_num, by omega, HX⟩
      case measure => simp [intOf]; omega
    · obtain rfl : i = N := by omega
      have HM : Hid (ps.length = i ∧ TwL w wr l ps [if 1 ≤ 0 then cmM i else cmZ, if 2 ≤ 0 then cmM (i + 1) else cmZ]) := by
        have := unhide hS
        rw [show i + 2 - i = 2 by omega] at this
        exact this
      clear hS HC hmk
      go_wp2_with fail
      go_loopw [6] (fun iv wr => ∃ (k x : Nat), iv = .int .i64 (x : Int) ∧ k ≤ 2 ∧ x = i + k ∧ Hid (ps.length = i ∧ TwL w wr l ps [if 1 ≤ k then cmM i else cmZ, if 2 ≤ k then cmM (i + 1) else cmZ])) (fun iv _ => (i + 2 - (intOf iv)).toNat)
      case atStart => exact ⟨0, i, rfl, by omega, rfl, HM⟩
      case round =>
        clear HM
        obtain ⟨k, x, rfl, hk, hx, hM⟩ := hrel
        by_cases hk2 : k < 2
        · have K := markCommit_any x wr (by omega)
          have q1 : (x : Int) < (i : Int) + 2 := by omega
          have q0 : (0 : Int) ≤ (x : Int) := by omega
          have q5 : decide (x < i + 2) = true := decide_eq_true (by omega)
          have HX := hide hx
          have xb : (x : Int) ≤ 262150 := by omega
          clear hx
          go_wp2_with fail
          refine K.mono ?_
          rintro y w2 ⟨rfl, b2⟩
          have hM2 := (unhide hM).2.bw b2
          have hpl : x = ps.length + k := by rw [(unhide hM).1]; exact unhide HX
          have hmk : [if 1 ≤ k then cmM i else cmZ, if 2 ≤ k then cmM (i + 1) else cmZ][k]? = some cmZ := by
            match k, hk2 with
            | 0, _ => rfl
            | 1, _ => rfl
          have d0 : w2.cell? ⟨w.heap.size, x * 15, none⟩ = some (.int .i64 0) := hM2.at (j := 0) hmk hpl (by omega) rfl
          have d1 : w2.cell? ⟨w.heap.size, x * 15 + 1, none⟩ = some (.int .i64 0) := hM2.at (j := 1) hmk hpl (by omega) rfl
          have d2 : w2.cell? ⟨w.heap.size, x * 15 + 2, none⟩ = some (.int .i64 0) := hM2.at (j := 2) hmk hpl (by omega) rfl
          have d3 : w2.cell? ⟨w.heap.size, x * 15 + 3, none⟩ = some (.int .i64 0) := hM2.at (j := 3) hmk hpl (by omega) rfl
          have d4 : w2.cell? ⟨w.heap.size, x * 15 + 4, none⟩ = some (.int .i64 0) := hM2.at (j := 4) hmk hpl (by omega) rfl
          have d5 : w2.cell? ⟨w.heap.size, x * 15 + 5, none⟩ = some (.bool false) := hM2.at (j := 5) hmk hpl (by omega) rfl
          have d6 : w2.cell? ⟨w.heap.size, x * 15 + 6, none⟩ = some (.slice none 0 0) := hM2.at (j := 6) hmk hpl (by omega) rfl
          have d7 : w2.cell? ⟨w.heap.size, x * 15 + 7, none⟩ = some (.slice none 0 0) := hM2.at (j := 7) hmk hpl (by omega) rfl
          have d8 : w2.cell? ⟨w.heap.size, x * 15 + 8, none⟩ = some (.slice none 0 0) := hM2.at (j := 8) hmk hpl (by omega) rfl
          have d9 : w2.cell? ⟨w.heap.size, x * 15 + 9, none⟩ = some (.slice none 0 0) := hM2.at (j := 9) hmk hpl (by omega) rfl
          have d10 : w2.cell? ⟨w.heap.size, x * 15 + 10, none⟩ = some (.int .i64 0) := hM2.at (j := 10) hmk hpl (by omega) rfl
          have d11 : w2.cell? ⟨w.heap.size, x * 15 + 11, none⟩ = some (.int .i64 0) := hM2.at (j := 11) hmk hpl (by omega) rfl
          have d12 : w2.cell? ⟨w.heap.size, x * 15 + 12, none⟩ = some (.slice none 0 0) := hM2.at (j := 12) hmk hpl (by omega) rfl
          have d13 : w2.cell? ⟨w.heap.size, x * 15 + 13, none⟩ = some (.int .i64 0) := hM2.at (j := 13) hmk hpl (by omega) rfl
          have d14 : w2.cell? ⟨w.heap.size, x * 15 + 14, none⟩ = some (.int .i64 0) := hM2.at (j := 14) hmk hpl (by omega) rfl
          have fz := fun j => froz_b (i := j) hM2.blk
          have HX2 : Hid (ps.length = i ∧ TwL w (((((((((((((((w2.setCell ⟨w.heap.size, x * 15, none⟩ (.int .i64 0)).setCell ⟨w.heap.size, x * 15 + 1, none⟩ (.int .i64 (mkI x))).setCell ⟨w.heap.size, x * 15 + 2, none⟩ (.int .i64 0)).setCell ⟨w.heap.size, x * 15 + 3, none⟩ (.int .i64 0)).setCell ⟨w.heap.size, x * 15 + 4, none⟩ (.int .i64 0)).setCell ⟨w.heap.size, x * 15 + 5, none⟩ (.bool false)).setCell ⟨w.heap.size, x * 15 + 6, none⟩ (.slice none 0 0)).setCell ⟨w.heap.size, x * 15 + 7, none⟩ (.slice none 0 0)).setCell ⟨w.heap.size, x * 15 + 8, none⟩ (.slice none 0 0)).setCell ⟨w.heap.size, x * 15 + 9, none⟩ (.slice none 0 0)).setCell ⟨w.heap.size, x * 15 + 10, none⟩ (.int .i64 0)).setCell ⟨w.heap.size, x * 15 + 11, none⟩ (.int .i64 0)).setCell ⟨w.heap.size, x * 15 + 12, none⟩ (.slice none 0 0)).setCell ⟨w.heap.size, x * 15 + 13, none⟩ (.int .i64 0)).setCell ⟨w.heap.size, x * 15 + 14, none⟩ (.int .i64 0)) l ps [if 1 ≤ k + 1 then cmM i else cmZ, if 2 ≤ k + 1 then cmM (i + 1) else cmZ]) := by
            refine ⟨(unhide hM).1, ?_⟩
            have := hM2.put k (by simp; omega) (cmM x) rfl
            rw [← hpl] at this
            have e : [if 1 ≤ k then cmM i else cmZ, if 2 ≤ k then cmM (i + 1) else cmZ].set k (cmM x) = [if 1 ≤ k + 1 then cmM i else cmZ, if 2 ≤ k + 1 then cmM (i + 1) else cmZ] := by
              rw [unhide HX]
              match k, hk2 with
              | 0, _ => rfl
              | 1, _ => rfl
            rw [e] at this
            exact this
          have hxi : x + 1 = i + (k + 1) := by have := unhide HX; omega
          have HXI := hide hxi
          clear K hM hM2 hxi hpl hmk b2
          generalize mkI x = mm at *
          go_wp2_with fail
          go_roundw
          case rel => exact ⟨k + 1, x + 1, by go_num, by omega, unhide HXI, HX2⟩
          case measure => simp [intOf]; omega
        · obtain rfl : k = 2 := by omega
          subst hx
          have q1 : decide ((((i + 2 : Nat)) : Int) < (i : Int) + 2) = false := decide_eq_false (by omega)
          go_wp2_with fail
          go_ret
          exact ⟨ps, rfl, (unhide hM).1, (unhide hM).2, (unhide hM).2.bel⟩
end Go.Proofs.YtnfhbmlmemifjaaGreatDoor

/- LeftCommit: a copy that nobody has touched. -/
namespace Go.Proofs.YtnfhbmlmemifjaaGreatDoor
open Go.RowKit Go.Maps
theorem TwC.cmr {B : Nat} {W : World} {c : Cm} {ga gr gq gj gn : Nat} {us : List Value} {y : Cv} {W' : World} (h : TwC B W c ga gr gq gj gn us) (hy : CmR W' c y) (hA : c.adds.length ≤ 262144) (hR : c.rem.length ≤ 262144) (hQ : c.seals.length ≤ 262144) (hJ : c.joins.length ≤ 262144) (hN : c.next.length ≤ 262144) (hU : ∀ n ∈ c.next, n.un.length ≤ 262144) : CmR W c (twX c ga gr gq gj gn) :=
  ⟨h.adds.ri (by omega) hA hy.adds.fit, (h.rem.ints (B := 0) (by omega) (Nat.zero_le _)).nums, hy.rlen, h.seals.ri (by omega) hQ hy.seals.fit, h.joins.ri (by omega) hJ hy.joins.fit, (h.next.otr (fun n hn => Nat.le_trans (hU n hn) (by omega))).trd (by omega) (fun n hn => Nat.le_trans (hU n hn) (by omega))⟩
set_option maxRecDepth 100000 in
set_option maxHeartbeats 8000000 in
theorem leftcm_any {w : World} {c : Cm} {B ga gr gq gj gn : Nat} {us : List Value} {y : Cv} (ht : TwC B w c ga gr gq gj gn us) (hy : CmR w c y) (hA : c.adds.length ≤ 262144) (hR : c.rem.length ≤ 262144) (hQ : c.seals.length ≤ 262144) (hJ : c.joins.length ≤ 262144) (hN : c.next.length ≤ 262144) (hU : ∀ n ∈ c.next, n.un.length ≤ 262144) :
    Calls Tryz.prog 31 #[cmV c (twX c ga gr gq gj gn), cmV c y] w fun e w' => e = .returned (.bool true) ∧ Below w.heap.size w w' := by
  have hx := ht.cmr hy hA hR hQ hJ hN hU
  obtain ⟨x, hx0⟩ : ∃ x, x = twX c ga gr gq gj gn := ⟨_, rfl⟩
  rw [← hx0] at hx ⊢
  obtain ⟨w0, hw0⟩ : ∃ w0, w0 = (w.alloc (.cells (cmC c x).toArray 34)).alloc (.cells (cmC c y).toArray 34) := ⟨_, rfl⟩
  have bl : Below w.heap.size w w0 := by rw [hw0]; exact bw_tr (bwA _ _) (bwA _ _)
  have kx : w0.heap[w.heap.size]? = some (.cells (cmC c x).toArray 34 (0, 0)) := by
    have h1 := heap_alloc_new w (.cells (cmC c x).toArray 34)
    rw [hw0, Below.heap_alloc _ _ _ (by simp)]; exact h1
  have ky : w0.heap[w.heap.size + 1]? = some (.cells (cmC c y).toArray 34 (0, 0)) := by
    have h2 := heap_alloc_new (w.alloc (.cells (cmC c x).toArray 34)) (.cells (cmC c y).toArray 34)
    have e : (w.alloc (.cells (cmC c x).toArray 34)).heap.size = w.heap.size + 1 := by simp
    rw [e] at h2
    rw [hw0]; exact h2
  have KT : Hid (∀ W, Below w0.heap.size w0 W → Calls Tryz.prog 171 #[.agg #[x.nv], .agg #[y.nv]] W fun e w' => e = .returned (.bool true) ∧ Below W.heap.size W w') := fun W hW => by rw [hx0]; exact leftTree_any W B gn _ _ us (ht.next.bw (bw_tr bl hW)) (hy.next.bw (bw_tr bl hW)) (by omega) (fun n hn => Nat.le_trans (hU n hn) (by omega))
  have KA : Hid (∀ W, Below w0.heap.size w0 W → Calls Tryz.prog 172 #[x.av, y.av] W fun e w' => e = .returned (.bool true) ∧ Below W.heap.size W w') := fun W hW => by rw [hx0]; exact leftAdds_any W _ _ _ (ht.adds.keep ((bw_tr bl hW).block _ ht.adds.lt)) (hy.adds.bw (bw_tr bl hW)) hA
  have KR : Hid (∀ W, Below w0.heap.size w0 W → Calls Tryz.prog 173 #[x.rv, y.rv] W fun e w' => e = .returned (.bool true) ∧ Below W.heap.size W w') := fun W hW => by rw [hx0]; exact leftint_any W _ _ _ (ht.rem.keep ((bw_tr bl hW).block _ ht.rem.lt)) (hy.rem.bw (bw_tr bl hW)) (by omega)
  have KQ : Hid (∀ W, Below w0.heap.size w0 W → Calls Tryz.prog 174 #[x.qv, y.qv] W fun e w' => e = .returned (.bool true) ∧ Below W.heap.size W w') := fun W hW => by rw [hx0]; exact leftSeals_any W _ _ _ (ht.seals.keep ((bw_tr bl hW).block _ ht.seals.lt)) (hy.seals.bw (bw_tr bl hW)) hQ
  have KJ : Hid (∀ W, Below w0.heap.size w0 W → Calls Tryz.prog 175 #[x.jv, y.jv] W fun e w' => e = .returned (.bool true) ∧ Below W.heap.size W w') := fun W hW => by rw [hx0]; exact leftJoins_any W _ _ _ (ht.joins.keep ((bw_tr bl hW).block _ ht.joins.lt)) (hy.joins.bw (bw_tr bl hW)) hJ
  clear hx0
  have s1 := hx.adds.slice
  have s2 := nums_slice hx.rem
  have s3 := hx.seals.slice
  have s4 := hx.joins.slice
  have s5 := hx.next.slice
  have t1 := hy.adds.slice
  have t2 := nums_slice hy.rem
  have t3 := hy.seals.slice
  have t4 := hy.joins.slice
  have t5 := hy.next.slice
  obtain ⟨g0, g1, g2, g3, g4, g5, adds, rem, seals, joins, g10, g11, next, g13, g14⟩ := c
  obtain ⟨av, rv, qv, jv, nv⟩ := x
  obtain ⟨av', rv', qv', jv', nv'⟩ := y
  simp only at KT KA KR KQ KJ s1 s2 s3 s4 s5 t1 t2 t3 t4 t5
  have YY : Hid (∀ W, Below w0.heap.size w0 W → ((W.cell? ⟨w.heap.size, 12, none⟩ = some nv ∧ W.cell? ⟨w.heap.size, 6, none⟩ = some av ∧ W.cell? ⟨w.heap.size, 7, none⟩ = some rv ∧ W.cell? ⟨w.heap.size, 8, none⟩ = some qv ∧ W.cell? ⟨w.heap.size, 9, none⟩ = some jv) ∧ (W.cell? ⟨w.heap.size + 1, 12, none⟩ = some nv' ∧ W.cell? ⟨w.heap.size + 1, 6, none⟩ = some av' ∧ W.cell? ⟨w.heap.size + 1, 7, none⟩ = some rv' ∧ W.cell? ⟨w.heap.size + 1, 8, none⟩ = some qv' ∧ W.cell? ⟨w.heap.size + 1, 9, none⟩ = some jv'))) := fun W hW => by
    have k1 := kept_b kx (lt_of_blk kx) hW
    have k2 := kept_b ky (lt_of_blk ky) hW
    exact ⟨⟨blk_c k1 rfl, blk_c k1 rfl, blk_c k1 rfl, blk_c k1 rfl, blk_c k1 rfl⟩, ⟨blk_c k2 rfl, blk_c k2 rfl, blk_c k2 rfl, blk_c k2 rfl, blk_c k2 rfl⟩⟩
  obtain ⟨⟨c12, c6, c7, c8, c9⟩, ⟨d12, d6, d7, d8, d9⟩⟩ := unhide YY w0 (Below.refl _ _)
  have c0 : w0.cell? ⟨w.heap.size, 0, none⟩ = some (.int .i64 g0) := blk_c kx rfl
  have c1 : w0.cell? ⟨w.heap.size, 1, none⟩ = some (.int .i64 g1) := blk_c kx rfl
  have c2 : w0.cell? ⟨w.heap.size, 2, none⟩ = some (.int .i64 g2) := blk_c kx rfl
  have c3 : w0.cell? ⟨w.heap.size, 3, none⟩ = some (.int .i64 g3) := blk_c kx rfl
  have c4 : w0.cell? ⟨w.heap.size, 4, none⟩ = some (.int .i64 g4) := blk_c kx rfl
  have c5 : w0.cell? ⟨w.heap.size, 5, none⟩ = some (.bool g5) := blk_c kx rfl
  have c10 : w0.cell? ⟨w.heap.size, 10, none⟩ = some (.int .i64 g10) := blk_c kx rfl
  have c11 : w0.cell? ⟨w.heap.size, 11, none⟩ = some (.int .i64 g11) := blk_c kx rfl
  have c13 : w0.cell? ⟨w.heap.size, 13, none⟩ = some (.int .i64 g13) := blk_c kx rfl
  have c14 : w0.cell? ⟨w.heap.size, 14, none⟩ = some (.int .i64 g14) := blk_c kx rfl
  have d0 : w0.cell? ⟨w.heap.size + 1, 0, none⟩ = some (.int .i64 g0) := blk_c ky rfl
  have d1 : w0.cell? ⟨w.heap.size + 1, 1, none⟩ = some (.int .i64 g1) := blk_c ky rfl
  have d2 : w0.cell? ⟨w.heap.size + 1, 2, none⟩ = some (.int .i64 g2) := blk_c ky rfl
  have d3 : w0.cell? ⟨w.heap.size + 1, 3, none⟩ = some (.int .i64 g3) := blk_c ky rfl
  have d4 : w0.cell? ⟨w.heap.size + 1, 4, none⟩ = some (.int .i64 g4) := blk_c ky rfl
  have d5 : w0.cell? ⟨w.heap.size + 1, 5, none⟩ = some (.bool g5) := blk_c ky rfl
  have d10 : w0.cell? ⟨w.heap.size + 1, 10, none⟩ = some (.int .i64 g10) := blk_c ky rfl
  have d11 : w0.cell? ⟨w.heap.size + 1, 11, none⟩ = some (.int .i64 g11) := blk_c ky rfl
  have d13 : w0.cell? ⟨w.heap.size + 1, 13, none⟩ = some (.int .i64 g13) := blk_c ky rfl
  have d14 : w0.cell? ⟨w.heap.size + 1, 14, none⟩ = some (.int .i64 g14) := blk_c ky rfl
  have HW : Hid (w0 = (w.alloc (.cells #[.int .i64 g0, .int .i64 g1, .int .i64 g2, .int .i64 g3, .int .i64 g4, .bool g5, av, rv, qv, jv, .int .i64 g10, .int .i64 g11, nv, .int .i64 g13, .int .i64 g14] 34)).alloc (.cells #[.int .i64 g0, .int .i64 g1, .int .i64 g2, .int .i64 g3, .int .i64 g4, .bool g5, av', rv', qv', jv', .int .i64 g10, .int .i64 g11, nv', .int .i64 g13, .int .i64 g14] 34)) := hw0
  obtain ⟨a1, k1, rfl⟩ := s1
  obtain ⟨a2, k2, rfl⟩ := s2
  obtain ⟨a3, k3, rfl⟩ := s3
  obtain ⟨a4, k4, rfl⟩ := s4
  obtain ⟨a5, k5, rfl⟩ := s5
  obtain ⟨b1, l1, rfl⟩ := t1
  obtain ⟨b2, l2, rfl⟩ := t2
  obtain ⟨b3, l3, rfl⟩ := t3
  obtain ⟨b4, l4, rfl⟩ := t4
  obtain ⟨b5, l5, rfl⟩ := t5
  have BL := hide bl
  unfold cmV cmC
  clear hx hy hw0 bl kx ky ht hA hR hQ hJ hN hU
  generalize adds.length = A at *
  generalize rem.length = R at *
  generalize seals.length = Q at *
  generalize joins.length = J at *
  generalize next.length = N at *
  go_enter Tryz.func31, Tryz.ntmps31
  go_upto_region 1 with fail
  rw [← unhide HW]
  clear HW
  go_wp2_with fail
  refine (unhide KT w0 (Below.refl _ _)).mono ?_
  rintro e w1 ⟨rfl, b1⟩
  obtain ⟨⟨-, c6, c7, c8, c9⟩, ⟨-, d6, d7, d8, d9⟩⟩ := unhide YY w1 b1
  have B1 := hide b1
  clear b1 KT c0 c1 c2 c3 c4 c5 c10 c11 c12 c13 c14 d0 d1 d2 d3 d4 d5 d10 d11 d12 d13 d14
  go_wp2_with fail
  refine (unhide KA w1 (unhide B1)).mono ?_
  rintro e w2 ⟨rfl, b2⟩
  have b2' := bw_tr (unhide B1) b2
  obtain ⟨⟨-, -, c7, c8, c9⟩, ⟨-, -, d7, d8, d9⟩⟩ := unhide YY w2 b2'
  have B2 := hide b2'
  clear b2 b2' KA B1 c6 d6
  go_wp2_with fail
  refine (unhide KR w2 (unhide B2)).mono ?_
  rintro e w3 ⟨rfl, b3⟩
  have b3' := bw_tr (unhide B2) b3
  obtain ⟨⟨-, -, -, c8, c9⟩, ⟨-, -, -, d8, d9⟩⟩ := unhide YY w3 b3'
  have B3 := hide b3'
  clear b3 b3' KR B2 c7 d7
  go_wp2_with fail
  refine (unhide KQ w3 (unhide B3)).mono ?_
  rintro e w4 ⟨rfl, b4⟩
  have b4' := bw_tr (unhide B3) b4
  obtain ⟨⟨-, -, -, -, c9⟩, ⟨-, -, -, -, d9⟩⟩ := unhide YY w4 b4'
  have B4 := hide b4'
  clear b4 b4' KQ B3 c8 d8
  go_wp2_with fail
  refine (unhide KJ w4 (unhide B4)).mono ?_
  rintro e w5 ⟨rfl, b5⟩
  have B5 := hide (bw_tr (unhide BL) (bw_tr (unhide B4) b5))
  clear b5 KJ B4 c9 d9 BL
  go_wp2
  go_ret
  exact ⟨rfl, unhide B5⟩
end Go.Proofs.YtnfhbmlmemifjaaGreatDoor
