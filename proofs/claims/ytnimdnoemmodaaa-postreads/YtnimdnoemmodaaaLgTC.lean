/- TwinCommit: a commit's copy, its lists with marks behind them. -/
import Derived.Test.YtnimdnoemmodaaaZ22
import Derived.Test.YtnimdnoemmodaaaLgTJoins
import Derived.Test.YtnimdnoemmodaaaZ23
namespace Go.Proofs.Ytnimdnoemmodaaa
open Go.RowKit Go.Maps
def slV (g n : Nat) : Value := .slice (some ⟨g, 0, none⟩) n (n + 2)
structure TwC (B : Nat) (W : World) (c : Cm) (ga gr gq gj gn : Nat) (us : List Value) : Prop where
  la : B ≤ ga
  lr : B ≤ gr
  lq : B ≤ gq
  lj : B ≤ gj
  adds : TwR 3 91 W ga c.adds
  rem : Twint W gr c.rem
  seals : TwR 3 95 W gq c.seals
  joins : TwR 2 98 W gj c.joins
  next : TwT B W gn c.next us
  un : ∀ u ∈ us, u.ownBlock ≠ some gr
def twX (c : Cm) (ga gr gq gj gn : Nat) : Cv := ⟨slV ga c.adds.length, slV gr c.rem.length, slV gq c.seals.length, slV gj c.joins.length, slV gn c.next.length⟩
theorem TwR.keep {c : Nat} {t : TypeId} {w w' : World} {g : Nat} {l : List (List Int)} (h : TwR c t w g l) (hb : w'.heap[g]? = w.heap[g]?) : TwR c t w' g l := by unfold TwR at h ⊢; rw [hb]; exact h
theorem TwR.lt {c : Nat} {t : TypeId} {w : World} {g : Nat} {l : List (List Int)} (h : TwR c t w g l) : g < w.heap.size := lt_of_blk h
theorem TwT.keep {B B' : Nat} {W W' : World} {G : Nat} {T : List Nd} {us : List Value} (h : TwT B W G T us) (hB : B' ≤ B) (hk : ∀ k, B ≤ k → k < W.heap.size → W'.heap[k]? = W.heap[k]?) : TwT B' W' G T us :=
  ⟨Nat.le_trans hB h.low, h.ul, own_mono (own_keep h.own (fun k hkk => hk k (World.ownsRow.lt h.own k hkk).1 (World.ownsRow.lt h.own k hkk).2)) hB,
   fun j n u hn hu => by obtain ⟨g, h1, h2, h3⟩ := h.un j n u hn hu; exact ⟨g, h1, Nat.le_trans hB h2, h3.keep (hk g h2 h3.lt)⟩, h.apart⟩
theorem TwC.keep {B B' : Nat} {W W' : World} {c : Cm} {ga gr gq gj gn : Nat} {us : List Value} (h : TwC B W c ga gr gq gj gn us) (hB : B' ≤ B) (hk : ∀ k, B ≤ k → k < W.heap.size → W'.heap[k]? = W.heap[k]?) : TwC B' W' c ga gr gq gj gn us :=
  ⟨Nat.le_trans hB h.la, Nat.le_trans hB h.lr, Nat.le_trans hB h.lq, Nat.le_trans hB h.lj, h.adds.keep (hk _ h.la h.adds.lt), h.rem.keep (hk _ h.lr h.rem.lt), h.seals.keep (hk _ h.lq h.seals.lt), h.joins.keep (hk _ h.lj h.joins.lt), h.next.keep hB hk, h.un⟩
structure SC (w W : World) (cs : Array Value) : Prop where
  k1 : W.heap[w.heap.size]? = some (.cells cs 45 (0, 0))
  k2 : W.heap[w.heap.size + 1]? = some (.cells cm0 45 (0, 0))
  bel : Below w.heap.size w W
theorem SC.two {w W : World} {cs : Array Value} (h : SC w W cs) : w.heap.size + 2 ≤ W.heap.size := lt_of_blk h.k2
theorem SC.bw {w W W' : World} {cs : Array Value} (h : SC w W cs) (hb : Below W.heap.size W W') : SC w W' cs := ⟨kept_b h.k1 (lt_of_blk h.k1) hb, kept_b h.k2 (lt_of_blk h.k2) hb, bw_tr h.bel hb⟩
theorem SC.poke {w W : World} {cs : Array Value} (h : SC w W cs) (i : Nat) (v : Value) : SC w (W.setCell ⟨w.heap.size, i, none⟩ v) (cs.setIfInBounds i v) ∧ ∀ k, w.heap.size + 2 ≤ k → (W.setCell ⟨w.heap.size, i, none⟩ v).heap[k]? = W.heap[k]? :=
  ⟨⟨poke_b h.k1 v, by rw [other_c (by omega)]; exact h.k2, h.bel.setCell (by simp) v⟩, fun k hk => other_c (by omega)⟩
set_option maxRecDepth 100000 in
set_option maxHeartbeats 8000000 in
theorem twincm_any {w : World} {c : Cm} {x : Cv} (h : CmR w c x) (hA : c.adds.length ≤ 262144) (hR : c.rem.length ≤ 262144) (hQ : c.seals.length ≤ 262144) (hJ : c.joins.length ≤ 262144) (hN : c.next.length ≤ 262144) (hU : ∀ n ∈ c.next, n.un.length ≤ 262144) :
    Calls Try.prog 41 #[cmV c x] w fun e w' => ∃ ga gr gq gj gn us, e = .returned (cmV c (twX c ga gr gq gj gn)) ∧ TwC w.heap.size w' c ga gr gq gj gn us ∧ Below w.heap.size w w' := by
  obtain ⟨w0, hw0⟩ : ∃ w0, w0 = (w.alloc (.cells (cmC c x).toArray 45)).alloc (.cells cm0 45) := ⟨_, rfl⟩
  have s0 : SC w w0 (cmC c x).toArray := by
    refine ⟨?_, ?_, ?_⟩
    · have h1 := heap_alloc_new w (.cells (cmC c x).toArray 45)
      rw [hw0, Below.heap_alloc _ _ _ (by simp)]; exact h1
    · have h2 := heap_alloc_new (w.alloc (.cells (cmC c x).toArray 45)) (.cells cm0 45)
      have e : (w.alloc (.cells (cmC c x).toArray 45)).heap.size = w.heap.size + 1 := by simp
      rw [e] at h2
      rw [hw0]; exact h2
    · rw [hw0]; exact bw_tr (bwA _ _) (bwA _ _)
  have K0 := hide (twinTree_any w0 x.nv c.next (h.next.bw s0.bel) (by omega) (fun n hn => Nat.le_trans (hU n hn) (by omega)))
  have KA : Hid (∀ W, Below w.heap.size w W → Calls Try.prog 56 #[x.av] W fun e w' => e = .returned (.slice (some ⟨W.heap.size, 0, none⟩) c.adds.length (c.adds.length + 2)) ∧ TwR 3 91 w' W.heap.size c.adds ∧ Below W.heap.size W w') := fun W hW => twinAdds_any W x.av c.adds (h.adds.bw hW) hA
  have KR : Hid (∀ W, Below w.heap.size w W → Calls Try.prog 57 #[x.rv] W fun e w' => e = .returned (.slice (some ⟨W.heap.size, 0, none⟩) c.rem.length (c.rem.length + 2)) ∧ Twint w' W.heap.size c.rem ∧ Below W.heap.size W w') := fun W hW => twinint_any W x.rv c.rem (h.rem.bw hW) (by omega)
  have KQ : Hid (∀ W, Below w.heap.size w W → Calls Try.prog 58 #[x.qv] W fun e w' => e = .returned (.slice (some ⟨W.heap.size, 0, none⟩) c.seals.length (c.seals.length + 2)) ∧ TwR 3 95 w' W.heap.size c.seals ∧ Below W.heap.size W w') := fun W hW => twinSeals_any W x.qv c.seals (h.seals.bw hW) hQ
  have KJ : Hid (∀ W, Below w.heap.size w W → Calls Try.prog 59 #[x.jv] W fun e w' => e = .returned (.slice (some ⟨W.heap.size, 0, none⟩) c.joins.length (c.joins.length + 2)) ∧ TwR 2 98 w' W.heap.size c.joins ∧ Below W.heap.size W w') := fun W hW => twinJoins_any W x.jv c.joins (h.joins.bw hW) hJ
  have e1 := h.adds.slice
  have e2 := nums_slice h.rem
  have e3 := h.seals.slice
  have e4 := h.joins.slice
  have e5 := h.next.slice
  clear h hA hR hQ hJ hN hU
  obtain ⟨g0, g1, g2, g3, g4, g5, adds, rem, seals, joins, g10, g11, next, g13, g14⟩ := c
  obtain ⟨av, rv, qv, jv, nv⟩ := x
  simp only at K0 KA KR KQ KJ e1 e2 e3 e4 e5
  obtain ⟨a1, k1, e1⟩ := e1
  obtain ⟨a2, k2, e2⟩ := e2
  obtain ⟨a3, k3, e3⟩ := e3
  obtain ⟨a4, k4, e4⟩ := e4
  obtain ⟨a5, k5, e5⟩ := e5
  obtain ⟨N, hN⟩ : ∃ z, z = next.length := ⟨_, rfl⟩
  rw [← hN] at K0 e5
  obtain ⟨LA, hLA⟩ : ∃ z, z = adds.length := ⟨_, rfl⟩
  obtain ⟨LR, hLR⟩ : ∃ z, z = rem.length := ⟨_, rfl⟩
  obtain ⟨LQ, hLQ⟩ : ∃ z, z = seals.length := ⟨_, rfl⟩
  obtain ⟨LJ, hLJ⟩ : ∃ z, z = joins.length := ⟨_, rfl⟩
  rw [← hLA] at KA e1
  rw [← hLR] at KR e2
  rw [← hLQ] at KQ e3
  rw [← hLJ] at KJ e4
  subst e1 e2 e3 e4 e5
  have HW : Hid (w0 = (w.alloc (.cells #[.int .i64 g0, .int .i64 g1, .int .i64 g2, .int .i64 g3, .int .i64 g4, .bool g5, .slice a1 LA k1, .slice a2 LR k2, .slice a3 LQ k3, .slice a4 LJ k4, .int .i64 g10, .int .i64 g11, .slice a5 N k5, .int .i64 g13, .int .i64 g14] 45)).alloc (.cells #[.int .i64 0, .int .i64 0, .int .i64 0, .int .i64 0, .int .i64 0, .bool false, .slice none 0 0, .slice none 0 0, .slice none 0 0, .slice none 0 0, .int .i64 0, .int .i64 0, .slice none 0 0, .int .i64 0, .int .i64 0] 45)) := hw0
  have S0 : Hid (SC w w0 #[.int .i64 g0, .int .i64 g1, .int .i64 g2, .int .i64 g3, .int .i64 g4, .bool g5, .slice a1 LA k1, .slice a2 LR k2, .slice a3 LQ k3, .slice a4 LJ k4, .int .i64 g10, .int .i64 g11, .slice a5 N k5, .int .i64 g13, .int .i64 g14]) := s0
  have HN := hide (And.intro hN (And.intro hLA (And.intro hLR (And.intro hLQ hLJ))))
  unfold cmV cmC
  clear hw0 s0 hN hLA hLR hLQ hLJ
  go_enter Try.func41, Try.ntmps41
  go_upto_region 1 with fail
  rw [← unhide HW]
  clear HW
  have c12 : w0.cell? ⟨w.heap.size, 12, none⟩ = some (.slice a5 N k5) := blk_c (unhide S0).k1 rfl
  go_wp2_with fail
  refine (unhide K0).mono ?_
  rintro e w1 ⟨gn, us, rfl, ht, b1⟩
  have s1 := (unhide S0).bw b1
  have p1 := s1.poke 12 (.slice (some ⟨gn, 0, none⟩) N (N + 2))
  obtain ⟨V1, hV1⟩ : ∃ V, V = w1.setCell ⟨w.heap.size, 12, none⟩ (.slice (some ⟨gn, 0, none⟩) N (N + 2)) := ⟨_, rfl⟩
  rw [← hV1] at p1
  have T1 : TwT (w.heap.size + 2) V1 gn next us := ht.keep (unhide S0).two (fun k hk hk2 => p1.2 k (Nat.le_trans (unhide S0).two hk))
  have Q1 : Hid (SC w V1 #[.int .i64 g0, .int .i64 g1, .int .i64 g2, .int .i64 g3, .int .i64 g4, .bool g5, .slice a1 LA k1, .slice a2 LR k2, .slice a3 LQ k3, .slice a4 LJ k4, .int .i64 g10, .int .i64 g11, (.slice (some ⟨gn, 0, none⟩) N (N + 2)), .int .i64 g13, .int .i64 g14] ∧ TwT (w.heap.size + 2) V1 gn next us) := ⟨p1.1, T1⟩
  have c12 : w1.cell? ⟨w.heap.size, 12, none⟩ = some (.slice a5 N k5) := blk_c s1.k1 rfl
  have c6 : w1.cell? ⟨w.heap.size, 6, none⟩ = some (.slice a1 LA k1) := blk_c s1.k1 rfl
  have fz := fun j => froz_b (i := j) s1.k1
  have HV := hide hV1
  clear S0 K0 ht b1 s1 p1 hV1 T1
  go_wp2_with fail
  rw [← unhide HV]
  clear HV c12 c6 fz
  refine (unhide KA V1 (unhide Q1).1.bel).mono ?_
  rintro e w2 ⟨rfl, ht, b1⟩
  have s1 := (unhide Q1).1.bw b1
  have p1 := s1.poke 6 (.slice (some ⟨V1.heap.size, 0, none⟩) LA (LA + 2))
  obtain ⟨V2, hV2⟩ : ∃ V, V = w2.setCell ⟨w.heap.size, 6, none⟩ (.slice (some ⟨V1.heap.size, 0, none⟩) LA (LA + 2)) := ⟨_, rfl⟩
  rw [← hV2] at p1
  have kp : ∀ j, w.heap.size + 2 ≤ j → j < V1.heap.size → V2.heap[j]? = V1.heap[j]? := fun j h1 h2 => by rw [p1.2 j h1]; exact b1.block j h2
  have h2 := (unhide Q1).1.two
  have ht' := ht.keep (p1.2 _ h2)
  have q1 := (unhide Q1).2
  have Q2 : Hid (SC w V2 #[.int .i64 g0, .int .i64 g1, .int .i64 g2, .int .i64 g3, .int .i64 g4, .bool g5, (.slice (some ⟨V1.heap.size, 0, none⟩) LA (LA + 2)), .slice a2 LR k2, .slice a3 LQ k3, .slice a4 LJ k4, .int .i64 g10, .int .i64 g11, (.slice (some ⟨gn, 0, none⟩) N (N + 2)), .int .i64 g13, .int .i64 g14] ∧ TwT (w.heap.size + 2) V2 gn next us ∧ TwR 3 91 V2 V1.heap.size adds ∧ w.heap.size + 2 ≤ V1.heap.size) := ⟨p1.1, q1.keep (Nat.le_refl _) kp, ht', h2⟩
  have c6 : w2.cell? ⟨w.heap.size, 6, none⟩ = some (.slice a1 LA k1) := blk_c s1.k1 rfl
  have c7 : w2.cell? ⟨w.heap.size, 7, none⟩ = some (.slice a2 LR k2) := blk_c s1.k1 rfl
  have fz := fun j => froz_b (i := j) s1.k1
  have HV := hide hV2
  clear ht ht' b1 s1 p1 kp h2 hV2 Q1 KA q1
  go_wp2_with fail
  rw [← unhide HV]
  clear HV c6 c7 fz
  refine (unhide KR V2 (unhide Q2).1.bel).mono ?_
  rintro e w3 ⟨rfl, ht, b1⟩
  have s1 := (unhide Q2).1.bw b1
  have p1 := s1.poke 7 (.slice (some ⟨V2.heap.size, 0, none⟩) LR (LR + 2))
  obtain ⟨V3, hV3⟩ : ∃ V, V = w3.setCell ⟨w.heap.size, 7, none⟩ (.slice (some ⟨V2.heap.size, 0, none⟩) LR (LR + 2)) := ⟨_, rfl⟩
  rw [← hV3] at p1
  have kp : ∀ j, w.heap.size + 2 ≤ j → j < V2.heap.size → V3.heap[j]? = V2.heap[j]? := fun j h1 h2 => by rw [p1.2 j h1]; exact b1.block j h2
  have h2 := (unhide Q2).1.two
  have ht' := ht.keep (p1.2 _ h2)
  obtain ⟨q1, q2, q2b⟩ := (unhide Q2).2
  have hun : ∀ u ∈ us, u.ownBlock ≠ some V2.heap.size := fun u hu hk => by
    obtain ⟨j, hj⟩ := List.getElem?_of_mem hu
    have hjl : j < next.length := by have := (List.getElem?_eq_some_iff.1 hj).1; rw [q1.ul] at this; exact this
    obtain ⟨g, rfl, _, hT⟩ := q1.un j _ u (List.getElem?_eq_getElem hjl) hj
    have h3 := hT.lt
    have h4 : some g = some V2.heap.size := hk
    rw [Option.some.inj h4] at h3
    exact absurd h3 (Nat.lt_irrefl _)
  have Q3 : Hid (SC w V3 #[.int .i64 g0, .int .i64 g1, .int .i64 g2, .int .i64 g3, .int .i64 g4, .bool g5, (.slice (some ⟨V1.heap.size, 0, none⟩) LA (LA + 2)), (.slice (some ⟨V2.heap.size, 0, none⟩) LR (LR + 2)), .slice a3 LQ k3, .slice a4 LJ k4, .int .i64 g10, .int .i64 g11, (.slice (some ⟨gn, 0, none⟩) N (N + 2)), .int .i64 g13, .int .i64 g14] ∧ TwT (w.heap.size + 2) V3 gn next us ∧ TwR 3 91 V3 V1.heap.size adds ∧ w.heap.size + 2 ≤ V1.heap.size ∧ Twint V3 V2.heap.size rem ∧ w.heap.size + 2 ≤ V2.heap.size ∧ (∀ u ∈ us, u.ownBlock ≠ some V2.heap.size)) := ⟨p1.1, q1.keep (Nat.le_refl _) kp, q2.keep (kp _ q2b q2.lt), q2b, ht', h2, hun⟩
  have c7 : w3.cell? ⟨w.heap.size, 7, none⟩ = some (.slice a2 LR k2) := blk_c s1.k1 rfl
  have c8 : w3.cell? ⟨w.heap.size, 8, none⟩ = some (.slice a3 LQ k3) := blk_c s1.k1 rfl
  have fz := fun j => froz_b (i := j) s1.k1
  have HV := hide hV3
  clear ht ht' b1 s1 p1 kp h2 hV3 Q2 KR q1 q2 q2b hun
  go_wp2_with fail
  rw [← unhide HV]
  clear HV c7 c8 fz
  refine (unhide KQ V3 (unhide Q3).1.bel).mono ?_
  rintro e w4 ⟨rfl, ht, b1⟩
  have s1 := (unhide Q3).1.bw b1
  have p1 := s1.poke 8 (.slice (some ⟨V3.heap.size, 0, none⟩) LQ (LQ + 2))
  obtain ⟨V4, hV4⟩ : ∃ V, V = w4.setCell ⟨w.heap.size, 8, none⟩ (.slice (some ⟨V3.heap.size, 0, none⟩) LQ (LQ + 2)) := ⟨_, rfl⟩
  rw [← hV4] at p1
  have kp : ∀ j, w.heap.size + 2 ≤ j → j < V3.heap.size → V4.heap[j]? = V3.heap[j]? := fun j h1 h2 => by rw [p1.2 j h1]; exact b1.block j h2
  have h2 := (unhide Q3).1.two
  have ht' := ht.keep (p1.2 _ h2)
  obtain ⟨q1, q2, q2b, q3, q3b, q3c⟩ := (unhide Q3).2
  have Q4 : Hid (SC w V4 #[.int .i64 g0, .int .i64 g1, .int .i64 g2, .int .i64 g3, .int .i64 g4, .bool g5, (.slice (some ⟨V1.heap.size, 0, none⟩) LA (LA + 2)), (.slice (some ⟨V2.heap.size, 0, none⟩) LR (LR + 2)), (.slice (some ⟨V3.heap.size, 0, none⟩) LQ (LQ + 2)), .slice a4 LJ k4, .int .i64 g10, .int .i64 g11, (.slice (some ⟨gn, 0, none⟩) N (N + 2)), .int .i64 g13, .int .i64 g14] ∧ TwT (w.heap.size + 2) V4 gn next us ∧ TwR 3 91 V4 V1.heap.size adds ∧ w.heap.size + 2 ≤ V1.heap.size ∧ Twint V4 V2.heap.size rem ∧ w.heap.size + 2 ≤ V2.heap.size ∧ (∀ u ∈ us, u.ownBlock ≠ some V2.heap.size) ∧ TwR 3 95 V4 V3.heap.size seals ∧ w.heap.size + 2 ≤ V3.heap.size) := ⟨p1.1, q1.keep (Nat.le_refl _) kp, q2.keep (kp _ q2b q2.lt), q2b, q3.keep (kp _ q3b q3.lt), q3b, q3c, ht', h2⟩
  have c8 : w4.cell? ⟨w.heap.size, 8, none⟩ = some (.slice a3 LQ k3) := blk_c s1.k1 rfl
  have c9 : w4.cell? ⟨w.heap.size, 9, none⟩ = some (.slice a4 LJ k4) := blk_c s1.k1 rfl
  have fz := fun j => froz_b (i := j) s1.k1
  have HV := hide hV4
  clear ht ht' b1 s1 p1 kp h2 hV4 Q3 KQ q1 q2 q2b q3 q3b q3c
  go_wp2_with fail
  rw [← unhide HV]
  clear HV c8 c9 fz
  refine (unhide KJ V4 (unhide Q4).1.bel).mono ?_
  rintro e w5 ⟨rfl, ht, b1⟩
  have s1 := (unhide Q4).1.bw b1
  have p1 := s1.poke 9 (.slice (some ⟨V4.heap.size, 0, none⟩) LJ (LJ + 2))
  obtain ⟨V5, hV5⟩ : ∃ V, V = w5.setCell ⟨w.heap.size, 9, none⟩ (.slice (some ⟨V4.heap.size, 0, none⟩) LJ (LJ + 2)) := ⟨_, rfl⟩
  rw [← hV5] at p1
  have kp : ∀ j, w.heap.size + 2 ≤ j → j < V4.heap.size → V5.heap[j]? = V4.heap[j]? := fun j h1 h2 => by rw [p1.2 j h1]; exact b1.block j h2
  have h2 := (unhide Q4).1.two
  have ht' := ht.keep (p1.2 _ h2)
  obtain ⟨q1, q2, q2b, q3, q3b, q3c, q4, q4b⟩ := (unhide Q4).2
  have Q5 : Hid (SC w V5 #[.int .i64 g0, .int .i64 g1, .int .i64 g2, .int .i64 g3, .int .i64 g4, .bool g5, (.slice (some ⟨V1.heap.size, 0, none⟩) LA (LA + 2)), (.slice (some ⟨V2.heap.size, 0, none⟩) LR (LR + 2)), (.slice (some ⟨V3.heap.size, 0, none⟩) LQ (LQ + 2)), (.slice (some ⟨V4.heap.size, 0, none⟩) LJ (LJ + 2)), .int .i64 g10, .int .i64 g11, (.slice (some ⟨gn, 0, none⟩) N (N + 2)), .int .i64 g13, .int .i64 g14] ∧ TwT (w.heap.size + 2) V5 gn next us ∧ TwR 3 91 V5 V1.heap.size adds ∧ w.heap.size + 2 ≤ V1.heap.size ∧ Twint V5 V2.heap.size rem ∧ w.heap.size + 2 ≤ V2.heap.size ∧ (∀ u ∈ us, u.ownBlock ≠ some V2.heap.size) ∧ TwR 3 95 V5 V3.heap.size seals ∧ w.heap.size + 2 ≤ V3.heap.size ∧ TwR 2 98 V5 V4.heap.size joins ∧ w.heap.size + 2 ≤ V4.heap.size) := ⟨p1.1, q1.keep (Nat.le_refl _) kp, q2.keep (kp _ q2b q2.lt), q2b, q3.keep (kp _ q3b q3.lt), q3b, q3c, q4.keep (kp _ q4b q4.lt), q4b, ht', h2⟩
  have x9 : w5.cell? ⟨w.heap.size, 9, none⟩ = some (.slice a4 LJ k4) := blk_c s1.k1 rfl
  have fz := fun j => froz_b (i := j) s1.k1
  have HV := hide hV5
  clear ht ht' b1 s1 p1 kp h2 hV5 Q4 KJ q1 q2 q2b q3 q3b q3c q4 q4b
  obtain ⟨WZ, hWZ⟩ : ∃ W, W = pokes V5 (w.heap.size + 1) 0 [.int .i64 g0, .int .i64 g1, .int .i64 g2, .int .i64 g3, .int .i64 g4, .bool g5, (.slice (some ⟨V1.heap.size, 0, none⟩) LA (LA + 2)), (.slice (some ⟨V2.heap.size, 0, none⟩) LR (LR + 2)), (.slice (some ⟨V3.heap.size, 0, none⟩) LQ (LQ + 2)), (.slice (some ⟨V4.heap.size, 0, none⟩) LJ (LJ + 2)), .int .i64 g10, .int .i64 g11, (.slice (some ⟨gn, 0, none⟩) N (N + 2)), .int .i64 g13, .int .i64 g14] := ⟨_, rfl⟩
  have s5 := (unhide Q5).1
  have z : WZ.heap[w.heap.size + 1]? = some (.cells #[.int .i64 g0, .int .i64 g1, .int .i64 g2, .int .i64 g3, .int .i64 g4, .bool g5, (.slice (some ⟨V1.heap.size, 0, none⟩) LA (LA + 2)), (.slice (some ⟨V2.heap.size, 0, none⟩) LR (LR + 2)), (.slice (some ⟨V3.heap.size, 0, none⟩) LQ (LQ + 2)), (.slice (some ⟨V4.heap.size, 0, none⟩) LJ (LJ + 2)), .int .i64 g10, .int .i64 g11, (.slice (some ⟨gn, 0, none⟩) N (N + 2)), .int .i64 g13, .int .i64 g14] 45 (0, 0)) := by
    rw [hWZ, pokes_at _ _ _ _ s5.k2, pk_all (by rfl)]
  have hk : ∀ k, w.heap.size + 2 ≤ k → WZ.heap[k]? = V5.heap[k]? := fun k hk => by rw [hWZ, pokes_other (by omega)]
  have hb : Below w.heap.size w WZ := by rw [hWZ]; exact pokes_below (by omega) _ _ _ s5.bel
  have HF : Hid (TwC w.heap.size WZ ⟨g0, g1, g2, g3, g4, g5, adds, rem, seals, joins, g10, g11, next, g13, g14⟩ V1.heap.size V2.heap.size V3.heap.size V4.heap.size gn us ∧ Below w.heap.size w WZ) := by
    obtain ⟨q1, q2, q2b, q3, q3b, q3c, q4, q4b, q5, q5b⟩ := (unhide Q5).2
    have t : TwC (w.heap.size + 2) V5 ⟨g0, g1, g2, g3, g4, g5, adds, rem, seals, joins, g10, g11, next, g13, g14⟩ V1.heap.size V2.heap.size V3.heap.size V4.heap.size gn us := ⟨q2b, q3b, q4b, q5b, q2, q3, q4, q5, q1, q3c⟩
    exact ⟨t.keep (by omega) (fun k h1 _ => hk k h1), hb⟩
  have c0 : V5.cell? ⟨w.heap.size, 0, none⟩ = some (.int .i64 g0) := blk_c s5.k1 rfl
  have c1 : V5.cell? ⟨w.heap.size, 1, none⟩ = some (.int .i64 g1) := blk_c s5.k1 rfl
  have c2 : V5.cell? ⟨w.heap.size, 2, none⟩ = some (.int .i64 g2) := blk_c s5.k1 rfl
  have c3 : V5.cell? ⟨w.heap.size, 3, none⟩ = some (.int .i64 g3) := blk_c s5.k1 rfl
  have c4 : V5.cell? ⟨w.heap.size, 4, none⟩ = some (.int .i64 g4) := blk_c s5.k1 rfl
  have c5 : V5.cell? ⟨w.heap.size, 5, none⟩ = some (.bool g5) := blk_c s5.k1 rfl
  have c6 : V5.cell? ⟨w.heap.size, 6, none⟩ = some ((.slice (some ⟨V1.heap.size, 0, none⟩) LA (LA + 2))) := blk_c s5.k1 rfl
  have c7 : V5.cell? ⟨w.heap.size, 7, none⟩ = some ((.slice (some ⟨V2.heap.size, 0, none⟩) LR (LR + 2))) := blk_c s5.k1 rfl
  have c8 : V5.cell? ⟨w.heap.size, 8, none⟩ = some ((.slice (some ⟨V3.heap.size, 0, none⟩) LQ (LQ + 2))) := blk_c s5.k1 rfl
  have c9 : V5.cell? ⟨w.heap.size, 9, none⟩ = some ((.slice (some ⟨V4.heap.size, 0, none⟩) LJ (LJ + 2))) := blk_c s5.k1 rfl
  have c10 : V5.cell? ⟨w.heap.size, 10, none⟩ = some (.int .i64 g10) := blk_c s5.k1 rfl
  have c11 : V5.cell? ⟨w.heap.size, 11, none⟩ = some (.int .i64 g11) := blk_c s5.k1 rfl
  have c12 : V5.cell? ⟨w.heap.size, 12, none⟩ = some ((.slice (some ⟨gn, 0, none⟩) N (N + 2))) := blk_c s5.k1 rfl
  have c13 : V5.cell? ⟨w.heap.size, 13, none⟩ = some (.int .i64 g13) := blk_c s5.k1 rfl
  have c14 : V5.cell? ⟨w.heap.size, 14, none⟩ = some (.int .i64 g14) := blk_c s5.k1 rfl
  have d0 : V5.cell? ⟨w.heap.size + 1, 0, none⟩ = some (.int .i64 0) := blk_c s5.k2 rfl
  have d1 : V5.cell? ⟨w.heap.size + 1, 1, none⟩ = some (.int .i64 0) := blk_c s5.k2 rfl
  have d2 : V5.cell? ⟨w.heap.size + 1, 2, none⟩ = some (.int .i64 0) := blk_c s5.k2 rfl
  have d3 : V5.cell? ⟨w.heap.size + 1, 3, none⟩ = some (.int .i64 0) := blk_c s5.k2 rfl
  have d4 : V5.cell? ⟨w.heap.size + 1, 4, none⟩ = some (.int .i64 0) := blk_c s5.k2 rfl
  have d5 : V5.cell? ⟨w.heap.size + 1, 5, none⟩ = some (.bool false) := blk_c s5.k2 rfl
  have d6 : V5.cell? ⟨w.heap.size + 1, 6, none⟩ = some (.slice none 0 0) := blk_c s5.k2 rfl
  have d7 : V5.cell? ⟨w.heap.size + 1, 7, none⟩ = some (.slice none 0 0) := blk_c s5.k2 rfl
  have d8 : V5.cell? ⟨w.heap.size + 1, 8, none⟩ = some (.slice none 0 0) := blk_c s5.k2 rfl
  have d9 : V5.cell? ⟨w.heap.size + 1, 9, none⟩ = some (.slice none 0 0) := blk_c s5.k2 rfl
  have d10 : V5.cell? ⟨w.heap.size + 1, 10, none⟩ = some (.int .i64 0) := blk_c s5.k2 rfl
  have d11 : V5.cell? ⟨w.heap.size + 1, 11, none⟩ = some (.int .i64 0) := blk_c s5.k2 rfl
  have d12 : V5.cell? ⟨w.heap.size + 1, 12, none⟩ = some (.slice none 0 0) := blk_c s5.k2 rfl
  have d13 : V5.cell? ⟨w.heap.size + 1, 13, none⟩ = some (.int .i64 0) := blk_c s5.k2 rfl
  have d14 : V5.cell? ⟨w.heap.size + 1, 14, none⟩ = some (.int .i64 0) := blk_c s5.k2 rfl
  have z0 : WZ.cell? ⟨w.heap.size + 1, 0, none⟩ = some (.int .i64 g0) := blk_c z rfl
  have z1 : WZ.cell? ⟨w.heap.size + 1, 1, none⟩ = some (.int .i64 g1) := blk_c z rfl
  have z2 : WZ.cell? ⟨w.heap.size + 1, 2, none⟩ = some (.int .i64 g2) := blk_c z rfl
  have z3 : WZ.cell? ⟨w.heap.size + 1, 3, none⟩ = some (.int .i64 g3) := blk_c z rfl
  have z4 : WZ.cell? ⟨w.heap.size + 1, 4, none⟩ = some (.int .i64 g4) := blk_c z rfl
  have z5 : WZ.cell? ⟨w.heap.size + 1, 5, none⟩ = some (.bool g5) := blk_c z rfl
  have z6 : WZ.cell? ⟨w.heap.size + 1, 6, none⟩ = some ((.slice (some ⟨V1.heap.size, 0, none⟩) LA (LA + 2))) := blk_c z rfl
  have z7 : WZ.cell? ⟨w.heap.size + 1, 7, none⟩ = some ((.slice (some ⟨V2.heap.size, 0, none⟩) LR (LR + 2))) := blk_c z rfl
  have z8 : WZ.cell? ⟨w.heap.size + 1, 8, none⟩ = some ((.slice (some ⟨V3.heap.size, 0, none⟩) LQ (LQ + 2))) := blk_c z rfl
  have z9 : WZ.cell? ⟨w.heap.size + 1, 9, none⟩ = some ((.slice (some ⟨V4.heap.size, 0, none⟩) LJ (LJ + 2))) := blk_c z rfl
  have z10 : WZ.cell? ⟨w.heap.size + 1, 10, none⟩ = some (.int .i64 g10) := blk_c z rfl
  have z11 : WZ.cell? ⟨w.heap.size + 1, 11, none⟩ = some (.int .i64 g11) := blk_c z rfl
  have z12 : WZ.cell? ⟨w.heap.size + 1, 12, none⟩ = some ((.slice (some ⟨gn, 0, none⟩) N (N + 2))) := blk_c z rfl
  have z13 : WZ.cell? ⟨w.heap.size + 1, 13, none⟩ = some (.int .i64 g13) := blk_c z rfl
  have z14 : WZ.cell? ⟨w.heap.size + 1, 14, none⟩ = some (.int .i64 g14) := blk_c z rfl
  have fy := fun j => froz_b (i := j) s5.k2
  have HZ : Hid (WZ = (((((((((((((((V5.setCell ⟨w.heap.size + 1, 0, none⟩ (.int .i64 g0)).setCell ⟨w.heap.size + 1, 1, none⟩ (.int .i64 g1)).setCell ⟨w.heap.size + 1, 2, none⟩ (.int .i64 g2)).setCell ⟨w.heap.size + 1, 3, none⟩ (.int .i64 g3)).setCell ⟨w.heap.size + 1, 4, none⟩ (.int .i64 g4)).setCell ⟨w.heap.size + 1, 5, none⟩ (.bool g5)).setCell ⟨w.heap.size + 1, 6, none⟩ ((.slice (some ⟨V1.heap.size, 0, none⟩) LA (LA + 2)))).setCell ⟨w.heap.size + 1, 7, none⟩ ((.slice (some ⟨V2.heap.size, 0, none⟩) LR (LR + 2)))).setCell ⟨w.heap.size + 1, 8, none⟩ ((.slice (some ⟨V3.heap.size, 0, none⟩) LQ (LQ + 2)))).setCell ⟨w.heap.size + 1, 9, none⟩ ((.slice (some ⟨V4.heap.size, 0, none⟩) LJ (LJ + 2)))).setCell ⟨w.heap.size + 1, 10, none⟩ (.int .i64 g10)).setCell ⟨w.heap.size + 1, 11, none⟩ (.int .i64 g11)).setCell ⟨w.heap.size + 1, 12, none⟩ ((.slice (some ⟨gn, 0, none⟩) N (N + 2)))).setCell ⟨w.heap.size + 1, 13, none⟩ (.int .i64 g13)).setCell ⟨w.heap.size + 1, 14, none⟩ (.int .i64 g14))) := hWZ
  clear hWZ z hk hb s5 Q5
  go_upto_region 6 with fail
  rw [← unhide HV]
  clear HV x9 fz
  go_wp2_with fail
  rw [← unhide HZ]
  obtain ⟨hN, hA, hR, hQ, hJ⟩ := unhide HN
  refine bodyPost_ret (v := .agg #[.int .i64 g0, .int .i64 g1, .int .i64 g2, .int .i64 g3, .int .i64 g4, .bool g5, (.slice (some ⟨V1.heap.size, 0, none⟩) LA (LA + 2)), (.slice (some ⟨V2.heap.size, 0, none⟩) LR (LR + 2)), (.slice (some ⟨V3.heap.size, 0, none⟩) LQ (LQ + 2)), (.slice (some ⟨V4.heap.size, 0, none⟩) LJ (LJ + 2)), .int .i64 g10, .int .i64 g11, (.slice (some ⟨gn, 0, none⟩) N (N + 2)), .int .i64 g13, .int .i64 g14]) (by simp [results, Try.results41, go_sem, z0, z1, z2, z3, z4, z5, z6, z7, z8, z9, z10, z11, z12, z13, z14]) rfl ⟨V1.heap.size, V2.heap.size, V3.heap.size, V4.heap.size, gn, us, ?_, (unhide HF).1, (unhide HF).2⟩
  rw [hN, hA, hR, hQ, hJ]
  rfl
end Go.Proofs.Ytnimdnoemmodaaa
