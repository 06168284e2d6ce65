/- Texts joined: LgTR LgTU LgTV LgTW LgTX. -/
import Derived.Test.YtnfhbmlmemifjaaGreatDoorZ17
import Derived.Deep.RegionHeld3
/- LeftCommits: a list of commits that nobody has touched. -/
namespace Go.Proofs.YtnfhbmlmemifjaaGreatDoor
open Go.RowKit Go.Maps
structure TwCs (B : Nat) (W : World) (G : Nat) (l : List Cm) (ps : List Pl) : Prop where
  low : B ≤ G
  pl : ps.length = l.length
  blk : W.heap[G]? = some (.cells (rowsL l ps ++ [cmM l.length, cmM (l.length + 1)]).flatten.toArray 34 (0, 0))
  each : ∀ (j : Nat) (c : Cm) (p : Pl), l[j]? = some c → ps[j]? = some p → p.tw B W c
  nog : ∀ (j : Nat) (p : Pl) (k : Nat), ps[j]? = some p → k ∈ p.blocks → k ≠ G
  apart : ∀ (i j : Nat) (p q : Pl) (k : Nat), ps[i]? = some p → ps[j]? = some q → k ∈ p.blocks → k ∈ q.blocks → i = j
theorem TwL.fin {w W : World} {l : List Cm} {ps : List Pl} (h : TwL w W l ps [cmM l.length, cmM (l.length + 1)]) (hp : ps.length = l.length) : TwCs w.heap.size W w.heap.size l ps :=
  ⟨Nat.le_refl _, hp, h.blk, fun j c p h1 h2 => TwC.keep (h.each j c p h1 h2) (by omega) (fun _ _ _ => rfl), fun j p k h1 h2 => by
    obtain ⟨c, hc⟩ : ∃ c, l[j]? = some c := ⟨_, List.getElem?_eq_getElem (by rw [← hp]; exact (List.getElem?_eq_some_iff.1 h1).1)⟩
    have := (Pl.range (h.each j c p hc h1) h2).1
    omega, h.apart⟩
theorem TwCs.keep {B B' : Nat} {W W' : World} {G : Nat} {l : List Cm} {ps : List Pl} (h : TwCs B W G l ps) (hB : B' ≤ B) (hk : ∀ k, B ≤ k → k < W.heap.size → W'.heap[k]? = W.heap[k]?) : TwCs B' W' G l ps :=
  ⟨Nat.le_trans hB h.low, h.pl, by rw [hk G h.low (lt_of_blk h.blk)]; exact h.blk, fun j c p h1 h2 => TwC.keep (h.each j c p h1 h2) hB hk, h.nog, h.apart⟩
theorem TwCs.bw {B : Nat} {W W' : World} {G : Nat} {l : List Cm} {ps : List Pl} (h : TwCs B W G l ps) (hb : Below W.heap.size W W') : TwCs B W' G l ps := h.keep (Nat.le_refl _) (fun k _ hk => hb.block k hk)
theorem rowsL_get {l : List Cm} {ps : List Pl} {i : Nat} {c : Cm} {p : Pl} (h1 : l[i]? = some c) (h2 : ps[i]? = some p) : (rowsL l ps)[i]? = some (p.row c) := by
  unfold rowsL
  rw [List.getElem?_zipWith, h1, h2]
theorem TwCs.all {B : Nat} {W : World} {G : Nat} {l : List Cm} {ps : List Pl} (_ : TwCs B W G l ps) : ∀ r ∈ rowsL l ps ++ [cmM l.length, cmM (l.length + 1)], r.length = 15 := fun r hr => by
  rcases List.mem_append.1 hr with d | d
  · exact rowsL_len r d
  · simp at d; rcases d with rfl | rfl <;> rfl
theorem TwCs.cell {B : Nat} {W : World} {G : Nat} {l : List Cm} {ps : List Pl} (h : TwCs B W G l ps) {i j : Nat} {c : Cm} {p : Pl} {v : Value} (h1 : l[i]? = some c) (h2 : ps[i]? = some p) (hj : j < 15) (hv : (p.row c)[j]? = some v) : W.cell? ⟨G, i * 15 + j, none⟩ = some v := by
  refine blk_c h.blk ?_
  have hi := (List.getElem?_eq_some_iff.1 (rowsL_get h1 h2)).1
  rw [List.getElem?_toArray, fl_get h.all hj, List.getElem?_append_left hi, rowsL_get h1 h2]
  exact hv
theorem TwCs.mark {B : Nat} {W : World} {G : Nat} {l : List Cm} {ps : List Pl} (h : TwCs B W G l ps) {k j x : Nat} {v : Value} (hk : k < 2) (hx : x = l.length + k) (hj : j < 15) (hv : (cmM x)[j]? = some v) : W.cell? ⟨G, x * 15 + j, none⟩ = some v := by
  refine blk_c h.blk ?_
  have hz : (rowsL l ps).length = l.length := by rw [rowsL_size (by rw [h.pl]; exact Nat.le_refl _), h.pl]
  have hm : [cmM l.length, cmM (l.length + 1)][k]? = some (cmM x) := by
    subst hx
    match k, hk with
    | 0, _ => rfl
    | 1, _ => rfl
  rw [List.getElem?_toArray, fl_get h.all hj, List.getElem?_append_right (by omega), hz, hx, Nat.add_sub_cancel_left, hm]
  exact hv
set_option maxRecDepth 100000 in
set_option maxHeartbeats 8000000 in
theorem leftcms_any (w : World) (B G : Nat) (v : Value) (l : List Cm) (ps : List Pl) (ht : TwCs B w G l ps) (h : Cms w v l) (hl : l.length ≤ 262144) (hB : ∀ c ∈ l, CmB c) :
    Calls Tryz.prog 190 #[.slice (some ⟨G, 0, none⟩) l.length (l.length + 2), v] w fun e w' => e = .returned (.bool true) ∧ Below w.heap.size w w' := by
  obtain ⟨a, c, rfl⟩ := h.slice
  have HC : Hid (∀ i, i < l.length → ∃ b o g0 g1 g2 g3 g4 g5 g10 g11 g13 g14 a1 LA k1 a2 LR k2 a3 LQ k3 a4 LJ k4 a5 LN k5 ga gr gq gj gn, a = some ⟨b, o, none⟩ ∧ ∀ W, Below w.heap.size w W → ((W.cell? ⟨G, i * 15, none⟩ = some (.int .i64 g0) ∧ W.cell? ⟨G, i * 15 + 1, none⟩ = some (.int .i64 g1) ∧ W.cell? ⟨G, i * 15 + 2, none⟩ = some (.int .i64 g2) ∧ W.cell? ⟨G, i * 15 + 3, none⟩ = some (.int .i64 g3) ∧ W.cell? ⟨G, i * 15 + 4, none⟩ = some (.int .i64 g4) ∧ W.cell? ⟨G, i * 15 + 5, none⟩ = some (.bool g5) ∧ W.cell? ⟨G, i * 15 + 6, none⟩ = some (.slice (some ⟨ga, 0, none⟩) LA (LA + 2)) ∧ W.cell? ⟨G, i * 15 + 7, none⟩ = some (.slice (some ⟨gr, 0, none⟩) LR (LR + 2)) ∧ W.cell? ⟨G, i * 15 + 8, none⟩ = some (.slice (some ⟨gq, 0, none⟩) LQ (LQ + 2)) ∧ W.cell? ⟨G, i * 15 + 9, none⟩ = some (.slice (some ⟨gj, 0, none⟩) LJ (LJ + 2)) ∧ W.cell? ⟨G, i * 15 + 10, none⟩ = some (.int .i64 g10) ∧ W.cell? ⟨G, i * 15 + 11, none⟩ = some (.int .i64 g11) ∧ W.cell? ⟨G, i * 15 + 12, none⟩ = some (.slice (some ⟨gn, 0, none⟩) LN (LN + 2)) ∧ W.cell? ⟨G, i * 15 + 13, none⟩ = some (.int .i64 g13) ∧ W.cell? ⟨G, i * 15 + 14, none⟩ = some (.int .i64 g14)) ∧ (W.cell? ⟨b, o + i * 15, none⟩ = some (.int .i64 g0) ∧ W.cell? ⟨b, o + i * 15 + 1, none⟩ = some (.int .i64 g1) ∧ W.cell? ⟨b, o + i * 15 + 2, none⟩ = some (.int .i64 g2) ∧ W.cell? ⟨b, o + i * 15 + 3, none⟩ = some (.int .i64 g3) ∧ W.cell? ⟨b, o + i * 15 + 4, none⟩ = some (.int .i64 g4) ∧ W.cell? ⟨b, o + i * 15 + 5, none⟩ = some (.bool g5) ∧ W.cell? ⟨b, o + i * 15 + 6, none⟩ = some (.slice a1 LA k1) ∧ W.cell? ⟨b, o + i * 15 + 7, none⟩ = some (.slice a2 LR k2) ∧ W.cell? ⟨b, o + i * 15 + 8, none⟩ = some (.slice a3 LQ k3) ∧ W.cell? ⟨b, o + i * 15 + 9, none⟩ = some (.slice a4 LJ k4) ∧ W.cell? ⟨b, o + i * 15 + 10, none⟩ = some (.int .i64 g10) ∧ W.cell? ⟨b, o + i * 15 + 11, none⟩ = some (.int .i64 g11) ∧ W.cell? ⟨b, o + i * 15 + 12, none⟩ = some (.slice a5 LN k5) ∧ W.cell? ⟨b, o + i * 15 + 13, none⟩ = some (.int .i64 g13) ∧ W.cell? ⟨b, o + i * 15 + 14, none⟩ = some (.int .i64 g14))) ∧
      Calls Tryz.prog 31 #[.agg #[.int .i64 g0, .int .i64 g1, .int .i64 g2, .int .i64 g3, .int .i64 g4, .bool g5, .slice (some ⟨ga, 0, none⟩) LA (LA + 2), .slice (some ⟨gr, 0, none⟩) LR (LR + 2), .slice (some ⟨gq, 0, none⟩) LQ (LQ + 2), .slice (some ⟨gj, 0, none⟩) LJ (LJ + 2), .int .i64 g10, .int .i64 g11, .slice (some ⟨gn, 0, none⟩) LN (LN + 2), .int .i64 g13, .int .i64 g14], .agg #[.int .i64 g0, .int .i64 g1, .int .i64 g2, .int .i64 g3, .int .i64 g4, .bool g5, .slice a1 LA k1, .slice a2 LR k2, .slice a3 LQ k3, .slice a4 LJ k4, .int .i64 g10, .int .i64 g11, .slice a5 LN k5, .int .i64 g13, .int .i64 g14]] W fun x w' => x = .returned (.bool true) ∧ Below W.heap.size W w') := fun i hi => by
    obtain ⟨cm, hcm⟩ : ∃ cm, l[i]? = some cm := ⟨_, List.getElem?_eq_getElem hi⟩
    obtain ⟨p, hp⟩ : ∃ p, ps[i]? = some p := ⟨_, List.getElem?_eq_getElem (by rw [ht.pl]; exact hi)⟩
    obtain ⟨b, o, e, x, hx, hc⟩ := h.get hcm
    obtain ⟨a1, k1, e1⟩ := hx.adds.slice
    obtain ⟨a2, k2, e2⟩ := nums_slice hx.rem
    obtain ⟨a3, k3, e3⟩ := hx.seals.slice
    obtain ⟨a4, k4, e4⟩ := hx.joins.slice
    obtain ⟨a5, k5, e5⟩ := hx.next.slice
    refine ⟨b, o, cm.gr, cm.ep, cm.dev, cm.mem, cm.ke, cm.ext, cm.own, cm.ent, cm.face, cm.card, a1, cm.adds.length, k1, a2, cm.rem.length, k2, a3, cm.seals.length, k3, a4, cm.joins.length, k4, a5, cm.next.length, k5, p.ga, p.gr, p.gq, p.gj, p.gn, e, fun W hW => ⟨⟨?_, ?_⟩, ?_⟩⟩
    · have ht' := ht.bw hW
      exact ⟨ht'.cell hcm hp (j := 0) (by omega) rfl, ht'.cell hcm hp (j := 1) (by omega) rfl, ht'.cell hcm hp (j := 2) (by omega) rfl, ht'.cell hcm hp (j := 3) (by omega) rfl, ht'.cell hcm hp (j := 4) (by omega) rfl, ht'.cell hcm hp (j := 5) (by omega) rfl, ht'.cell hcm hp (j := 6) (by omega) rfl, ht'.cell hcm hp (j := 7) (by omega) rfl, ht'.cell hcm hp (j := 8) (by omega) rfl, ht'.cell hcm hp (j := 9) (by omega) rfl, ht'.cell hcm hp (j := 10) (by omega) rfl, ht'.cell hcm hp (j := 11) (by omega) rfl, ht'.cell hcm hp (j := 12) (by omega) rfl, ht'.cell hcm hp (j := 13) (by omega) rfl, ht'.cell hcm hp (j := 14) (by omega) rfl⟩
    · have hd : ∀ j u, (cmC cm x)[j]? = some u → W.cell? ⟨b, o + i * 15 + j, none⟩ = some u := fun j u hj => by
        rw [hW.cell (World.block_lt_of_cell? w _ (hc j u hj))]; exact hc j u hj
      rw [← e1, ← e2, ← e3, ← e4, ← e5]
      exact ⟨hd 0 _ rfl, hd 1 _ rfl, hd 2 _ rfl, hd 3 _ rfl, hd 4 _ rfl, hd 5 _ rfl, hd 6 _ rfl, hd 7 _ rfl, hd 8 _ rfl, hd 9 _ rfl, hd 10 _ rfl, hd 11 _ rfl, hd 12 _ rfl, hd 13 _ rfl, hd 14 _ rfl⟩
    · have hb := hB cm (List.mem_of_getElem? hcm)
      have K := leftcm_any (TwC.bw (ht.each i cm p hcm hp) hW) (hx.bw hW) hb.a hb.r hb.q hb.j hb.n hb.u
      unfold cmV at K
      rw [show cmC cm x = [.int .i64 cm.gr, .int .i64 cm.ep, .int .i64 cm.dev, .int .i64 cm.mem, .int .i64 cm.ke, .bool cm.ext, .slice a1 cm.adds.length k1, .slice a2 cm.rem.length k2, .slice a3 cm.seals.length k3, .slice a4 cm.joins.length k4, .int .i64 cm.own, .int .i64 cm.ent, .slice a5 cm.next.length k5, .int .i64 cm.face, .int .i64 cm.card] from by
        unfold cmC; rw [e1, e2, e3, e4, e5]] at K
      exact K
  have HMK : Hid (∀ W, Below w.heap.size w W → ∀ k x, k < 2 → x = l.length + k → (W.cell? ⟨G, x * 15, none⟩ = some (.int .i64 0) ∧ W.cell? ⟨G, x * 15 + 1, none⟩ = some (.int .i64 (mkI x)) ∧ W.cell? ⟨G, x * 15 + 2, none⟩ = some (.int .i64 0) ∧ W.cell? ⟨G, x * 15 + 3, none⟩ = some (.int .i64 0) ∧ W.cell? ⟨G, x * 15 + 4, none⟩ = some (.int .i64 0) ∧ W.cell? ⟨G, x * 15 + 5, none⟩ = some (.bool false) ∧ W.cell? ⟨G, x * 15 + 6, none⟩ = some (.slice none 0 0) ∧ W.cell? ⟨G, x * 15 + 7, none⟩ = some (.slice none 0 0) ∧ W.cell? ⟨G, x * 15 + 8, none⟩ = some (.slice none 0 0) ∧ W.cell? ⟨G, x * 15 + 9, none⟩ = some (.slice none 0 0) ∧ W.cell? ⟨G, x * 15 + 10, none⟩ = some (.int .i64 0) ∧ W.cell? ⟨G, x * 15 + 11, none⟩ = some (.int .i64 0) ∧ W.cell? ⟨G, x * 15 + 12, none⟩ = some (.slice none 0 0) ∧ W.cell? ⟨G, x * 15 + 13, none⟩ = some (.int .i64 0) ∧ W.cell? ⟨G, x * 15 + 14, none⟩ = some (.int .i64 0))) := fun W hW k x hk hx => by
    have ht' := ht.bw hW
    exact ⟨ht'.mark hk hx (j := 0) (by omega) rfl, ht'.mark hk hx (j := 1) (by omega) rfl, ht'.mark hk hx (j := 2) (by omega) rfl, ht'.mark hk hx (j := 3) (by omega) rfl, ht'.mark hk hx (j := 4) (by omega) rfl, ht'.mark hk hx (j := 5) (by omega) rfl, ht'.mark hk hx (j := 6) (by omega) rfl, ht'.mark hk hx (j := 7) (by omega) rfl, ht'.mark hk hx (j := 8) (by omega) rfl, ht'.mark hk hx (j := 9) (by omega) rfl, ht'.mark hk hx (j := 10) (by omega) rfl, ht'.mark hk hx (j := 11) (by omega) rfl, ht'.mark hk hx (j := 12) (by omega) rfl, ht'.mark hk hx (j := 13) (by omega) rfl, ht'.mark hk hx (j := 14) (by omega) rfl⟩
  obtain ⟨N, hN⟩ : ∃ N, N = l.length := ⟨_, rfl⟩
  rw [← hN] at HC HMK ⊢
  have hNI : (N : Int) ≤ 262144 := by omega
  have hsl : ∀ W, (Instr.slice 93 (.slice (some ⟨G, 0, none⟩) N (N + 2)) none (some (.int .i64 ((N : Int) + 2))) none).run Tryz.prog W = .ok (.slice (some ⟨G, 0, none⟩) (N + 2) (N + 2)) W := fun W => by
    have := slice_roomCommit W G N (N + 2) (N + 2) (Nat.le_refl _)
    exact this
  clear h hl hB hN ht
  go_enter Tryz.func190, Tryz.ntmps190
  go_wp2_with fail
  go_loopw [15] (fun iv wr => ∃ (i : Nat), iv = .int .i64 (i : Int) ∧ i ≤ N ∧ Hid (Below w.heap.size w wr)) (fun iv _ => (N - (intOf iv)).toNat)
  case atStart => exact ⟨0, rfl, by omega, Below.refl _ _⟩
  case round =>
    obtain ⟨i, rfl, hi, hbel⟩ := hrel
    by_cases hin : i < N
    · obtain ⟨b, o, g0, g1, g2, g3, g4, g5, g10, g11, g13, g14, a1, LA, k1, a2, LR, k2, a3, LQ, k3, a4, LJ, k4, a5, LN, k5, ga, gr, gq, gj, gn, rfl, hc⟩ := unhide HC i hin
      have q1 : (i : Int) < (N : Int) := by omega
      have q0 : (0 : Int) ≤ (i : Int) := by omega
      have S0 := (hc _ (unhide hbel)).1
      have S00 := (hc _ (unhide hbel).drew).1
      have K0 : Hid (Calls Tryz.prog 31 #[.agg #[.int .i64 g0, .int .i64 g1, .int .i64 g2, .int .i64 g3, .int .i64 g4, .bool g5, .slice (some ⟨ga, 0, none⟩) LA (LA + 2), .slice (some ⟨gr, 0, none⟩) LR (LR + 2), .slice (some ⟨gq, 0, none⟩) LQ (LQ + 2), .slice (some ⟨gj, 0, none⟩) LJ (LJ + 2), .int .i64 g10, .int .i64 g11, .slice (some ⟨gn, 0, none⟩) LN (LN + 2), .int .i64 g13, .int .i64 g14], .agg #[.int .i64 g0, .int .i64 g1, .int .i64 g2, .int .i64 g3, .int .i64 g4, .bool g5, .slice a1 LA k1, .slice a2 LR k2, .slice a3 LQ k3, .slice a4 LJ k4, .int .i64 g10, .int .i64 g11, .slice a5 LN k5, .int .i64 g13, .int .i64 g14]] wr.drew fun e w' => e = .returned (.bool true) ∧ Hid (Below w.heap.size w w') ∧ (w'.cell? ⟨G, i * 15, none⟩ = some (.int .i64 g0) ∧ w'.cell? ⟨G, i * 15 + 1, none⟩ = some (.int .i64 g1) ∧ w'.cell? ⟨G, i * 15 + 2, none⟩ = some (.int .i64 g2) ∧ w'.cell? ⟨G, i * 15 + 3, none⟩ = some (.int .i64 g3) ∧ w'.cell? ⟨G, i * 15 + 4, none⟩ = some (.int .i64 g4) ∧ w'.cell? ⟨G, i * 15 + 5, none⟩ = some (.bool g5) ∧ w'.cell? ⟨G, i * 15 + 6, none⟩ = some (.slice (some ⟨ga, 0, none⟩) LA (LA + 2)) ∧ w'.cell? ⟨G, i * 15 + 7, none⟩ = some (.slice (some ⟨gr, 0, none⟩) LR (LR + 2)) ∧ w'.cell? ⟨G, i * 15 + 8, none⟩ = some (.slice (some ⟨gq, 0, none⟩) LQ (LQ + 2)) ∧ w'.cell? ⟨G, i * 15 + 9, none⟩ = some (.slice (some ⟨gj, 0, none⟩) LJ (LJ + 2)) ∧ w'.cell? ⟨G, i * 15 + 10, none⟩ = some (.int .i64 g10) ∧ w'.cell? ⟨G, i * 15 + 11, none⟩ = some (.int .i64 g11) ∧ w'.cell? ⟨G, i * 15 + 12, none⟩ = some (.slice (some ⟨gn, 0, none⟩) LN (LN + 2)) ∧ w'.cell? ⟨G, i * 15 + 13, none⟩ = some (.int .i64 g13) ∧ w'.cell? ⟨G, i * 15 + 14, none⟩ = some (.int .i64 g14)) ∧ (w'.cell? ⟨b, o + i * 15, none⟩ = some (.int .i64 g0) ∧ w'.cell? ⟨b, o + i * 15 + 1, none⟩ = some (.int .i64 g1) ∧ w'.cell? ⟨b, o + i * 15 + 2, none⟩ = some (.int .i64 g2) ∧ w'.cell? ⟨b, o + i * 15 + 3, none⟩ = some (.int .i64 g3) ∧ w'.cell? ⟨b, o + i * 15 + 4, none⟩ = some (.int .i64 g4) ∧ w'.cell? ⟨b, o + i * 15 + 5, none⟩ = some (.bool g5) ∧ w'.cell? ⟨b, o + i * 15 + 6, none⟩ = some (.slice a1 LA k1) ∧ w'.cell? ⟨b, o + i * 15 + 7, none⟩ = some (.slice a2 LR k2) ∧ w'.cell? ⟨b, o + i * 15 + 8, none⟩ = some (.slice a3 LQ k3) ∧ w'.cell? ⟨b, o + i * 15 + 9, none⟩ = some (.slice a4 LJ k4) ∧ w'.cell? ⟨b, o + i * 15 + 10, none⟩ = some (.int .i64 g10) ∧ w'.cell? ⟨b, o + i * 15 + 11, none⟩ = some (.int .i64 g11) ∧ w'.cell? ⟨b, o + i * 15 + 12, none⟩ = some (.slice a5 LN k5) ∧ w'.cell? ⟨b, o + i * 15 + 13, none⟩ = some (.int .i64 g13) ∧ w'.cell? ⟨b, o + i * 15 + 14, none⟩ = some (.int .i64 g14))) := by
        refine Calls.mono (hc _ (unhide hbel).drew).2 ?_
        rintro e w' ⟨h1, h2⟩
        have b9 := bw_tr (unhide hbel).drew h2
        exact ⟨h1, b9, (hc _ b9).1⟩
      clear hc hbel HC HMK
      go_wp2_with fail
      go_region_held3 (fun w' : World => (w'.cell? ⟨G, i * 15, none⟩ = some (.int .i64 g0) ∧ w'.cell? ⟨G, i * 15 + 1, none⟩ = some (.int .i64 g1) ∧ w'.cell? ⟨G, i * 15 + 2, none⟩ = some (.int .i64 g2) ∧ w'.cell? ⟨G, i * 15 + 3, none⟩ = some (.int .i64 g3) ∧ w'.cell? ⟨G, i * 15 + 4, none⟩ = some (.int .i64 g4) ∧ w'.cell? ⟨G, i * 15 + 5, none⟩ = some (.bool g5) ∧ w'.cell? ⟨G, i * 15 + 6, none⟩ = some (.slice (some ⟨ga, 0, none⟩) LA (LA + 2)) ∧ w'.cell? ⟨G, i * 15 + 7, none⟩ = some (.slice (some ⟨gr, 0, none⟩) LR (LR + 2)) ∧ w'.cell? ⟨G, i * 15 + 8, none⟩ = some (.slice (some ⟨gq, 0, none⟩) LQ (LQ + 2)) ∧ w'.cell? ⟨G, i * 15 + 9, none⟩ = some (.slice (some ⟨gj, 0, none⟩) LJ (LJ + 2)) ∧ w'.cell? ⟨G, i * 15 + 10, none⟩ = some (.int .i64 g10) ∧ w'.cell? ⟨G, i * 15 + 11, none⟩ = some (.int .i64 g11) ∧ w'.cell? ⟨G, i * 15 + 12, none⟩ = some (.slice (some ⟨gn, 0, none⟩) LN (LN + 2)) ∧ w'.cell? ⟨G, i * 15 + 13, none⟩ = some (.int .i64 g13) ∧ w'.cell? ⟨G, i * 15 + 14, none⟩ = some (.int .i64 g14)) ∧ (w'.cell? ⟨b, o + i * 15, none⟩ = some (.int .i64 g0) ∧ w'.cell? ⟨b, o + i * 15 + 1, none⟩ = some (.int .i64 g1) ∧ w'.cell? ⟨b, o + i * 15 + 2, none⟩ = some (.int .i64 g2) ∧ w'.cell? ⟨b, o + i * 15 + 3, none⟩ = some (.int .i64 g3) ∧ w'.cell? ⟨b, o + i * 15 + 4, none⟩ = some (.int .i64 g4) ∧ w'.cell? ⟨b, o + i * 15 + 5, none⟩ = some (.bool g5) ∧ w'.cell? ⟨b, o + i * 15 + 6, none⟩ = some (.slice a1 LA k1) ∧ w'.cell? ⟨b, o + i * 15 + 7, none⟩ = some (.slice a2 LR k2) ∧ w'.cell? ⟨b, o + i * 15 + 8, none⟩ = some (.slice a3 LQ k3) ∧ w'.cell? ⟨b, o + i * 15 + 9, none⟩ = some (.slice a4 LJ k4) ∧ w'.cell? ⟨b, o + i * 15 + 10, none⟩ = some (.int .i64 g10) ∧ w'.cell? ⟨b, o + i * 15 + 11, none⟩ = some (.int .i64 g11) ∧ w'.cell? ⟨b, o + i * 15 + 12, none⟩ = some (.slice a5 LN k5) ∧ w'.cell? ⟨b, o + i * 15 + 13, none⟩ = some (.int .i64 g13) ∧ w'.cell? ⟨b, o + i * 15 + 14, none⟩ = some (.int .i64 g14))) (first | with_reducible exact S0 | with_reducible exact S00 | with_reducible exact S1) (first
        | (go_at_call 31; refine (unhide K0).mono ?_; rintro e z1 ⟨rfl, B1, S1⟩)
        | fail)
      all_goals
        clear S0 S00 S1 K0
        go_wp2_with fail
        go_roundw
        case rel => exact ⟨i + 1, by go_num, by omega, B1⟩
        case measure => simp [intOf]; omega
    · obtain rfl : i = N := by omega
      clear HC
      go_wp2_with fail
      go_loopw [7] (fun iv wq => ∃ (k x : Nat), iv = .int .i64 (x : Int) ∧ k ≤ 2 ∧ x = i + k ∧ Hid (Below w.heap.size w wq)) (fun iv _ => (i + 2 - (intOf iv)).toNat)
      case atStart => exact ⟨0, i, rfl, by omega, rfl, hbel⟩
      case round =>
        obtain ⟨k, x, rfl, hk, hx, hbel2⟩ := hrel
        by_cases hk2 : k < 2
        · obtain ⟨n0, n1, n2, n3, n4, n5, n6, n7, n8, n9, n10, n11, n12, n13, n14⟩ := unhide HMK _ (unhide hbel2) k x hk2 hx
          have K := isCommit_any x wr (by omega)
          have q1 : (x : Int) < (i : Int) + 2 := by omega
          have q0 : (0 : Int) ≤ (x : Int) := by omega
          have q5 : decide (x < i + 2) = true := decide_eq_true (by omega)
          have xb : (x : Int) ≤ 262150 := by omega
          have HX : Hid (x + 1 = i + (k + 1)) := by unfold Hid; omega
          clear hx
          generalize mkI x = mm at *
          go_wp2_with fail
          refine K.mono ?_
          rintro y w2 ⟨rfl, b2⟩
          have b3 := hide (bw_tr (unhide hbel2) b2)
          clear K b2 n0 n1 n2 n3 n4 n5 n6 n7 n8 n9 n10 n11 n12 n13 n14
          go_wp2_with fail
          go_roundw
          case rel => exact ⟨k + 1, x + 1, by go_num, by omega, unhide HX, b3⟩
          case measure => simp [intOf]; omega
        · obtain rfl : k = 2 := by omega
          subst hx
          have q1 : decide ((((i + 2 : Nat)) : Int) < (i : Int) + 2) = false := decide_eq_false (by omega)
          go_wp2_with fail
          go_ret
          exact ⟨rfl, unhide hbel2⟩
end Go.Proofs.YtnfhbmlmemifjaaGreatDoor

/- Logs' copies in one block, with marks behind them: what they are in memory. No walk is in this text. -/
namespace Go.Proofs.YtnfhbmlmemifjaaGreatDoor
open Go.RowKit Go.Maps
structure Lq where
  g : Nat
  ps : List Pl
def Lq.blocks (q : Lq) : List Nat := q.g :: q.ps.flatMap Pl.blocks
def Lq.tw (q : Lq) (B : Nat) (W : World) (p : Int × List Cm) : Prop := TwCs B W q.g p.2 q.ps
def Lq.row (q : Lq) (p : Int × List Cm) : List Value := [.int .i64 p.1, .slice (some ⟨q.g, 0, none⟩) p.2.length (p.2.length + 2)]
theorem Lq.range {q : Lq} {B : Nat} {W : World} {p : Int × List Cm} (h : q.tw B W p) {k : Nat} (hk : k ∈ q.blocks) : B ≤ k ∧ k < W.heap.size := by
  simp only [Lq.blocks, List.mem_cons] at hk
  rcases hk with rfl | hk
  · exact ⟨h.low, lt_of_blk h.blk⟩
  · obtain ⟨r, hr, hk⟩ := List.mem_flatMap.1 hk
    obtain ⟨j, hj⟩ := List.getElem?_of_mem hr
    have hjl : j < p.2.length := by have := (List.getElem?_eq_some_iff.1 hj).1; rw [h.pl] at this; exact this
    exact Pl.range (h.each j _ r (List.getElem?_eq_getElem hjl) hj) hk
def lg0 : Array Value := #[.int .i64 0, .slice none 0 0]
def lgZ : List Value := lg0.toList
def lgM (n : Nat) : List Value := [.int .i64 (mkI n), .slice none 0 0]
def rowsG (l : List (Int × List Cm)) (ps : List Lq) : List (List Value) := List.zipWith (fun c p => Lq.row p c) l ps
theorem rowsG_all : ∀ (l : List (Int × List Cm)) (ps : List Lq), ∀ r ∈ rowsG l ps, r.length = 2
  | [], _ => by simp [rowsG]
  | _ :: _, [] => by simp [rowsG]
  | c :: l, p :: ps => fun r hr => by
    rw [show rowsG (c :: l) (p :: ps) = p.row c :: rowsG l ps from rfl] at hr
    rcases List.mem_cons.1 hr with d | d
    · rw [d]; rfl
    · exact rowsG_all l ps r d
theorem rowsG_len {l : List (Int × List Cm)} {ps : List Lq} : ∀ r ∈ rowsG l ps, r.length = 2 := rowsG_all l ps
theorem rowsG_snoc : ∀ (l : List (Int × List Cm)) (ps : List Lq) (c : Int × List Cm) (p : Lq), l[ps.length]? = some c → rowsG l (ps ++ [p]) = rowsG l ps ++ [p.row c]
  | [], ps, c, p, h => by simp at h
  | d :: l, [], c, p, h => by
    simp at h; subst h
    simp [rowsG]
  | d :: l, q :: ps, c, p, h => by
    rw [List.length_cons, List.getElem?_cons_succ] at h
    show q.row d :: rowsG l (ps ++ [p]) = q.row d :: (rowsG l ps ++ [p.row c])
    rw [rowsG_snoc l ps c p h]
structure TwG (w W : World) (l : List (Int × List Cm)) (ps : List Lq) (m : List (List Value)) : Prop where
  pl : ps.length ≤ l.length
  blk : W.heap[w.heap.size]? = some (.cells (rowsG l ps ++ m).flatten.toArray 95 (0, 0))
  ml : ∀ r ∈ m, r.length = 2
  each : ∀ (j : Nat) (c : Int × List Cm) (p : Lq), l[j]? = some c → ps[j]? = some p → p.tw (w.heap.size + 1) W c
  apart : ∀ (i j : Nat) (p q : Lq) (k : Nat), ps[i]? = some p → ps[j]? = some q → k ∈ p.blocks → k ∈ q.blocks → i = j
  bel : Below w.heap.size w W
theorem rowsG_size {l : List (Int × List Cm)} {ps : List Lq} (h : ps.length ≤ l.length) : (rowsG l ps).length = ps.length := by simp [rowsG]; omega
theorem TwG.bw {w W W' : World} {l : List (Int × List Cm)} {ps : List Lq} {m : List (List Value)} (h : TwG w W l ps m) (hb : Below W.heap.size W W') : TwG w W' l ps m :=
  ⟨h.pl, kept_b h.blk (lt_of_blk h.blk) hb, h.ml, fun j c p h1 h2 => TwCs.bw (h.each j c p h1 h2) hb, h.apart, bw_tr h.bel hb⟩
theorem TwG.lt {w W : World} {l : List (Int × List Cm)} {ps : List Lq} {m : List (List Value)} (h : TwG w W l ps m) : w.heap.size < W.heap.size := lt_of_blk h.blk
theorem TwG.put {w W : World} {l : List (Int × List Cm)} {ps : List Lq} {m : List (List Value)} (h : TwG w W l ps m) (k : Nat) (hk : k < m.length) (vs : List Value) (hv : vs.length = 2) : TwG w (pokes W w.heap.size ((ps.length + k) * 2) vs) l ps (m.set k vs) := by
  have hr : ∀ r ∈ rowsG l ps ++ m, r.length = 2 := fun r hr => by
    rcases List.mem_append.1 hr with d | d
    · exact rowsG_len r d
    · exact h.ml r d
  have hz := rowsG_size h.pl
  refine ⟨h.pl, ?_, fun r hr => ?_, fun j c p h1 h2 => ?_, h.apart, pokes_below (Nat.le_refl _) _ _ _ h.bel⟩
  · rw [pokes_at _ _ _ _ h.blk, fl_set (by omega) hr (by rw [List.length_append, hz]; omega) hv, List.set_append_right _ _ (by omega), hz, Nat.add_sub_cancel_left]
  · rcases List.mem_or_eq_of_mem_set hr with d | d
    · exact h.ml r d
    · rw [d]; exact hv
  · exact TwCs.keep (h.each j c p h1 h2) (Nat.le_refl _) (fun k hk _ => pokes_other (by omega) _ _ _)
theorem TwG.next {w W W' : World} {l : List (Int × List Cm)} {ps : List Lq} {m : List (List Value)} {c : Int × List Cm} {p : Lq} (h : TwG w W l ps (lgZ :: m)) (hb : Below W.heap.size W W') (hc : l[ps.length]? = some c) (ht : p.tw W.heap.size W' c) : TwG w (pokes W' w.heap.size (ps.length * 2) (p.row c)) l (ps ++ [p]) m := by
  have h1 := (h.bw hb).put 0 (by simp) (p.row c) rfl
  rw [Nat.add_zero, List.set_cons_zero] at h1
  have hcl := (List.getElem?_eq_some_iff.1 hc).1
  have hrow := rowsG_snoc l ps c p hc
  refine ⟨by simp; omega, ?_, fun r hr => h.ml r (by simp [hr]), fun j c' p' e1 e2 => ?_, fun i j p1 p2 k e1 e2 k1 k2 => ?_, h1.bel⟩
  · rw [h1.blk, hrow, List.append_assoc]; rfl
  · rcases Nat.lt_or_ge j ps.length with d | d
    · rw [List.getElem?_append_left d] at e2
      exact h1.each j c' p' e1 e2
    · have hj : j = ps.length := by
        have := (List.getElem?_eq_some_iff.1 e2).1
        simp at this; omega
      subst hj
      rw [hc] at e1
      simp at e2
      cases e1; cases e2
      exact TwCs.keep ht h.lt (fun k hk _ => pokes_other (by have := h.lt; omega) _ _ _)
  · have hlow : ∀ (i : Nat) (p' : Lq) (k : Nat), i < ps.length → (ps ++ [p])[i]? = some p' → k ∈ p'.blocks → k < W.heap.size := fun i p' k d e hk => by
      rw [List.getElem?_append_left d] at e
      have hpl := h.pl
      obtain ⟨c', hc'⟩ : ∃ c', l[i]? = some c' := ⟨_, List.getElem?_eq_getElem (by omega)⟩
      exact (Lq.range (h.each i c' p' hc' e) hk).2
    have hhigh : ∀ (i : Nat) (p' : Lq) (k : Nat), ¬ i < ps.length → (ps ++ [p])[i]? = some p' → k ∈ p'.blocks → i = ps.length ∧ W.heap.size ≤ k := fun i p' k d e hk => by
      have hi : i = ps.length := by
        have := (List.getElem?_eq_some_iff.1 e).1
        simp at this; omega
      subst hi
      simp at e
      cases e
      exact ⟨rfl, (Lq.range ht hk).1⟩
    by_cases d1 : i < ps.length
    · by_cases d2 : j < ps.length
      · rw [List.getElem?_append_left d1] at e1
        rw [List.getElem?_append_left d2] at e2
        exact h.apart i j p1 p2 k e1 e2 k1 k2
      · have := hlow i p1 k d1 e1 k1
        have := (hhigh j p2 k d2 e2 k2).2
        omega
    · by_cases d2 : j < ps.length
      · have := hlow j p2 k d2 e2 k2
        have := (hhigh i p1 k d1 e1 k1).2
        omega
      · rw [(hhigh i p1 k d1 e1 k1).1, (hhigh j p2 k d2 e2 k2).1]
theorem made_lgs (m : Nat) : (madeCells (Value.agg lg0).cells (m * 2)).toList = (List.replicate m lgZ).flatten := by
  have hall : ∀ q ∈ List.replicate m lgZ, q.length = 2 := fun q hq => by have := List.eq_of_mem_replicate hq; subst this; rfl
  apply List.ext_getElem?
  intro i
  obtain ⟨q, r, hr, rfl⟩ : ∃ q r, r < 2 ∧ i = q * 2 + r := ⟨i / 2, i % 2, Nat.mod_lt _ (by omega), by rw [Nat.mul_comm]; exact (Nat.div_add_mod i 2).symm⟩
  rw [fl_get hall hr]
  rcases Nat.lt_or_ge q m with h | h
  · have e2 : (q * 2 + r) % 2 = r := by omega
    have h3 : q * 2 + r < m * 2 := by omega
    have e4 : (List.replicate m lgZ)[q]? = some lgZ := by simp [h]
    rw [e4]
    have hcz : lg0.size = 2 := rfl
    simp [madeCells, Value.cells, h3, hcz, e2, lgZ]
    rw [Array.getElem?_eq_getElem (by rw [hcz]; exact hr)]
    simp [hcz, hr]
  · rw [List.getElem?_eq_none (by simp [madeCells]; omega)]
    have e4 : (List.replicate m lgZ)[q]? = none := by simp [h]
    rw [e4]; rfl
end Go.Proofs.YtnfhbmlmemifjaaGreatDoor

/- TwinLog, LeftLog. -/
namespace Go.Proofs.YtnfhbmlmemifjaaGreatDoor
open Go.RowKit Go.Maps
set_option maxRecDepth 100000 in
set_option maxHeartbeats 4000000 in
theorem twinlog_any (w : World) (g : Int) (u : Value) (l : List Cm) (hu : Cms w u l) (hl : l.length ≤ 262144) (hB : ∀ c ∈ l, CmB c) :
    Calls Tryz.prog 33 #[.agg #[.int .i64 g, u]] w fun x w' => ∃ q : Lq, x = .returned (.agg #[.int .i64 g, .slice (some ⟨q.g, 0, none⟩) l.length (l.length + 2)]) ∧ q.tw w.heap.size w' (g, l) ∧ Below w.heap.size w w' := by
  obtain ⟨a, c, rfl⟩ := hu.slice
  obtain ⟨W0, hW0⟩ : ∃ W0, W0 = (w.alloc (.cells #[.int .i64 g, .slice a l.length c] 95)).alloc (.cells #[.int .i64 0, .slice none 0 0] 95) := ⟨_, rfl⟩
  have hb0 : Below w.heap.size w W0 := by rw [hW0]; exact (bwA _ _).alloc (by simp) _
  have hs0 : W0.heap.size = w.heap.size + 2 := by rw [hW0]; simp
  have HB : Hid (∀ W, Below W0.heap.size W0 W → W.heap[w.heap.size]? = some (.cells #[.int .i64 g, .slice a l.length c] 95 (0, 0)) ∧ W.heap[w.heap.size + 1]? = some (.cells #[.int .i64 0, .slice none 0 0] 95 (0, 0)) ∧ Below w.heap.size w W) := fun W hW => by
    refine ⟨?_, ?_, bw_tr hb0 hW⟩
    · rw [hW.block _ (by omega), hW0, Below.heap_alloc _ _ _ (by simp)]; exact heap_alloc_new _ _
    · rw [hW.block _ (by omega), hW0]
      have := heap_alloc_new (w.alloc (.cells #[.int .i64 g, .slice a l.length c] 95)) (.cells #[.int .i64 0, .slice none 0 0] 95)
      simpa using this
  have KT := hide (twincms_any W0 _ l (hu.bw hb0) hl hB)
  have HW : Hid (W0 = (w.alloc (.cells #[.int .i64 g, .slice a l.length c] 95)).alloc (.cells #[.int .i64 0, .slice none 0 0] 95)) := hW0
  have HS := hide hs0
  clear hW0 hu hl hb0 hs0 hB
  obtain ⟨L, hL⟩ : ∃ L, L = l.length := ⟨_, rfl⟩
  have HL := hide hL
  have KT' : Hid (Calls Tryz.prog 176 #[.slice a L c] W0 fun e w' => ∃ ps, e = .returned (.slice (some ⟨W0.heap.size, 0, none⟩) L (L + 2)) ∧ Hid (ps.length = l.length ∧ TwL W0 w' l ps [cmM l.length, cmM (l.length + 1)]) ∧ Below W0.heap.size W0 w') := by
    rw [hL]
    refine (unhide KT).mono ?_
    rintro e w' ⟨ps, h1, h2, h3, h4⟩
    exact ⟨ps, h1, ⟨h2, h3⟩, h4⟩
  rw [← hL] at HW HB ⊢
  clear hL KT
  go_enter Tryz.func33, Tryz.ntmps33
  go_wp2_with fail
  rw [← unhide HW]
  refine (unhide KT').mono ?_
  rintro x w1 ⟨ps, rfl, ht, b1⟩
  obtain ⟨k1, k2, b2⟩ := unhide HB _ b1
  have c0 := cell_of_blk k1 (o := 0) rfl; have c1 := cell_of_blk k1 (o := 1) rfl
  have d0 := cell_of_blk k2 (o := 0) rfl; have d1 := cell_of_blk k2 (o := 1) rfl
  have f3 := frozen_of_blk0 k1 1
  have e0 := frozen_of_blk0 k2 0; have e1 := frozen_of_blk0 k2 1
  obtain ⟨WZ, hWZ⟩ : ∃ WZ, WZ = ((w1.setCell ⟨w.heap.size, 1, none⟩ (.slice (some ⟨W0.heap.size, 0, none⟩) L (L + 2))).setCell ⟨w.heap.size + 1, 0, none⟩ (.int .i64 g)).setCell ⟨w.heap.size + 1, 1, none⟩ (.slice (some ⟨W0.heap.size, 0, none⟩) L (L + 2)) := ⟨_, rfl⟩
  have z : WZ.heap[w.heap.size + 1]? = some (.cells #[.int .i64 g, .slice (some ⟨W0.heap.size, 0, none⟩) L (L + 2)] 95 (0, 0)) := by
    rw [hWZ]; simp [World.setCell, Array.getElem?_modify, k2]
  have z0 := cell_of_blk z (o := 0) rfl; have z1 := cell_of_blk z (o := 1) rfl
  have HF : Hid (TwCs w.heap.size WZ W0.heap.size l ps ∧ Below w.heap.size w WZ) := by
    have hs := unhide HS
    refine ⟨?_, ?_⟩
    · refine ((unhide ht).2.fin (unhide ht).1).keep (by omega) (fun k h1 _ => ?_)
      rw [hWZ, other_c (by omega), other_c (by omega), other_c (by omega)]
    · rw [hWZ]; exact ((b2.setCell (by simp) _).setCell (by simp) _).setCell (by simp) _
  have HZ := hide hWZ
  clear hWZ z ht b1 b2 k1 k2
  go_wp2_with fail
  rw [← unhide HZ]
  refine bodyPost_ret (v := .agg #[.int .i64 g, .slice (some ⟨W0.heap.size, 0, none⟩) L (L + 2)]) (by simp [results, Tryz.results33, go_sem, z0, z1]) rfl ⟨⟨W0.heap.size, ps⟩, ?_, (unhide HF).1, (unhide HF).2⟩
  rfl
set_option maxRecDepth 100000 in
set_option maxHeartbeats 4000000 in
theorem leftlog_any (w : World) (B : Nat) (q : Lq) (g : Int) (u : Value) (l : List Cm) (ht : q.tw B w (g, l)) (hu : Cms w u l) (hl : l.length ≤ 262144) (hB : ∀ c ∈ l, CmB c) :
    Calls Tryz.prog 49 #[.agg #[.int .i64 g, .slice (some ⟨q.g, 0, none⟩) l.length (l.length + 2)], .agg #[.int .i64 g, u]] w fun e w' => e = .returned (.bool true) ∧ Below w.heap.size w w' := by
  obtain ⟨a, c, rfl⟩ := hu.slice
  obtain ⟨W0, hW0⟩ : ∃ W0, W0 = (w.alloc (.cells #[.int .i64 g, .slice (some ⟨q.g, 0, none⟩) l.length (l.length + 2)] 95)).alloc (.cells #[.int .i64 g, .slice a l.length c] 95) := ⟨_, rfl⟩
  have hb0 : Below w.heap.size w W0 := by rw [hW0]; exact (bwA _ _).alloc (by simp) _
  have K := hide (leftcms_any W0 B q.g _ l q.ps (TwCs.bw ht hb0) (hu.bw hb0) hl hB)
  have HW : Hid (W0 = (w.alloc (.cells #[.int .i64 g, .slice (some ⟨q.g, 0, none⟩) l.length (l.length + 2)] 95)).alloc (.cells #[.int .i64 g, .slice a l.length c] 95)) := hW0
  clear hW0 ht hu hl hB
  generalize l.length = N at *
  generalize q.g = G at *
  go_enter Tryz.func49, Tryz.ntmps49
  go_wp2_with fail
  rw [← unhide HW]
  refine (unhide K).mono ?_
  rintro x w1 ⟨rfl, b1⟩
  go_wp2
  go_ret
  exact ⟨rfl, bw_tr hb0 b1⟩
end Go.Proofs.YtnfhbmlmemifjaaGreatDoor

/- TwinLogs: logs, copied. -/
namespace Go.Proofs.YtnfhbmlmemifjaaGreatDoor
open Go.RowKit Go.Maps
def LgB (p : Int × List Cm) : Prop := p.2.length ≤ 262144 ∧ ∀ c ∈ p.2, CmB c
theorem TwG.at {w W : World} {l : List (Int × List Cm)} {ps : List Lq} {m : List (List Value)} (h : TwG w W l ps m) {k : Nat} {r : List Value} (hk : m[k]? = some r) {x : Nat} (hx : x = ps.length + k) {j : Nat} (hj : j < 2) {v : Value} (hv : r[j]? = some v) : W.cell? ⟨w.heap.size, x * 2 + j, none⟩ = some v := by
  refine blk_c h.blk ?_
  have hr : ∀ r ∈ rowsG l ps ++ m, r.length = 2 := fun r hr => by
    rcases List.mem_append.1 hr with d | d
    · exact rowsG_len r d
    · exact h.ml r d
  rw [List.getElem?_toArray, fl_get hr hj, hx, List.getElem?_append_right (by rw [rowsG_size h.pl]; omega), rowsG_size h.pl, Nat.add_sub_cancel_left, hk]
  exact hv
theorem Tryz.infoLog : (Tryz.prog.info? 95).map (fun i => (i.zero, i.size, i.bytes)) = some (some (.agg lg0), 2, 32) := by kernel_rfl
theorem slice_roomLog (w : World) (g n cap i : Nat) (hi : i ≤ cap) : (Instr.slice 22 (.slice (some ⟨g, 0, none⟩) n cap) none (some (.int .i64 (i : Int))) none).run Tryz.prog w = .ok (.slice (some ⟨g, 0, none⟩) i cap) w := by
  have ht : Tryz.prog.underlying 22 = some (.slice (Tryz.prog.elem 22)) := by kernel_rfl
  have he : Tryz.prog.elem 22 = 95 := by kernel_rfl
  have hs : (Go.sizeOf 95).run Tryz.prog w = .ok 2 w := by kernel_rfl
  rw [run_slice_h (P := Tryz.prog) w 22 (some ⟨g, 0, none⟩) n cap ht .i64 i (by omega) (by omega), he, hs]
  simp [Result.andThen, sliced, Addr.add]
theorem TwG.start (w : World) (l : List (Int × List Cm)) : TwG w (w.alloc (.cells (madeCells (Value.agg lg0).cells ((l.length + 2) * 2)) 95)) l [] (List.replicate (l.length + 2) lgZ) := by
  refine ⟨by simp, ?_, fun r hr => by rw [List.eq_of_mem_replicate hr]; rfl, by simp, by simp, bwA _ _⟩
  rw [heap_alloc_new]
  have h := made_lgs (l.length + 2)
  have e : rowsG l [] = [] := by simp [rowsG]
  rw [e, List.nil_append, ← h]
set_option maxRecDepth 100000 in
set_option maxHeartbeats 8000000 in
theorem twinlogs_any (w : World) (v : Value) (l : List (Int × List Cm)) (h : Lgs w v l) (hl : l.length ≤ 262144) (hB : ∀ c ∈ l, LgB c) :
    Calls Tryz.prog 7 #[v] w fun e w' => ∃ ps, e = .returned (.slice (some ⟨w.heap.size, 0, none⟩) l.length (l.length + 2)) ∧ ps.length = l.length ∧ TwG w w' l ps [lgM l.length, lgM (l.length + 1)] ∧ Below w.heap.size w w' := by
  obtain ⟨a, c, rfl⟩ := h.slice
  obtain ⟨i0, hi, hz0, hz1, hz2⟩ := info_parts Tryz.infoLog
  have hmk := run_makeSlice (P := Tryz.prog) w 22 95 i0 (.agg lg0) Tryz.underlying22 hi hz0 .i64 .i64 (l.length : Int) ((l.length : Int) + 2) (by omega) (by omega) (by rw [hz1]; omega) (by rw [hz2]; omega) (by omega)
  rw [hz1] at hmk
  have e2 : ((l.length : Int) + 2).toNat = l.length + 2 := by omega
  rw [e2, Int.toNat_natCast] at hmk
  have hS0 := hide (TwG.start w l)
  generalize madeCells (Value.agg lg0).cells ((l.length + 2) * 2) = mc at *
  have HC : Hid (∀ i, i < l.length → ∃ b o cm g0 a1 LA k1, a = some ⟨b, o, none⟩ ∧ l[i]? = some cm ∧ ∀ W, Below w.heap.size w W → (W.cell? ⟨b, o + i * 2, none⟩ = some (.int .i64 g0) ∧ W.cell? ⟨b, o + i * 2 + 1, none⟩ = some (.slice a1 LA k1)) ∧
      Calls Tryz.prog 33 #[.agg #[.int .i64 g0, .slice a1 LA k1]] W fun x w' => ∃ (p : Lq) (ga : Nat), x = .returned (.agg #[.int .i64 g0, .slice (some ⟨ga, 0, none⟩) LA (LA + 2)]) ∧ Hid (p.tw W.heap.size w' cm ∧ p.row cm = [.int .i64 g0, .slice (some ⟨ga, 0, none⟩) LA (LA + 2)]) ∧ Below W.heap.size W w') := fun i hi => by
    obtain ⟨cm, hcm⟩ : ∃ cm, l[i]? = some cm := ⟨_, List.getElem?_eq_getElem hi⟩
    obtain ⟨b, o, e, x, hx, hc0, hc1⟩ := h.get hcm
    obtain ⟨a1, k1, e1⟩ := hx.slice
    have hb := hB cm (List.mem_of_getElem? hcm)
    refine ⟨b, o, cm, cm.1, a1, cm.2.length, k1, e, hcm, fun W hW => ⟨⟨?_, ?_⟩, ?_⟩⟩
    · rw [hW.cell (World.block_lt_of_cell? w _ hc0)]; exact hc0
    · rw [← e1, hW.cell (World.block_lt_of_cell? w _ hc1)]; exact hc1
    · have K := twinlog_any W cm.1 x cm.2 (hx.bw hW) hb.1 hb.2
      rw [e1] at K
      refine Calls.mono K ?_
      rintro y w' ⟨p, rfl, ht, hb⟩
      exact ⟨p, p.g, rfl, ⟨ht, rfl⟩, hb⟩
  obtain ⟨N, hN⟩ : ∃ N, N = l.length := ⟨_, rfl⟩
  have HN := hide hN
  rw [← hN] at hmk HC hS0 ⊢
  have hNI : (N : Int) ≤ 262144 := by omega
  have hsl : ∀ W, (Instr.slice 22 (.slice (some ⟨w.heap.size, 0, none⟩) N (N + 2)) none (some (.int .i64 ((N : Int) + 2))) none).run Tryz.prog W = .ok (.slice (some ⟨w.heap.size, 0, none⟩) (N + 2) (N + 2)) W := fun W => by
    have := slice_roomLog W w.heap.size N (N + 2) (N + 2) (Nat.le_refl _)
    exact this
  clear e2 hi hz0 hz1 hz2 h hl hB hN
  go_enter Tryz.func7, Tryz.ntmps7
  go_wp2_with fail
  go_loopw [15] (fun iv wr => ∃ (i : Nat) (ps : List Lq), iv = .int .i64 (i : Int) ∧ i ≤ N ∧ Hid (ps.length = i ∧ TwG w wr l ps (List.replicate (N + 2 - i) lgZ))) (fun iv _ => (N - (intOf iv)).toNat)
  case atStart => exact ⟨0, [], rfl, by omega, rfl, unhide hS0⟩
  case round =>
    clear hS0
    obtain ⟨i, ps, rfl, hi, hS⟩ := hrel
    by_cases hin : i < N
    · obtain ⟨b, o, cm, g0, a1, LA, k1, rfl, t1, hc⟩ := unhide HC i hin
      obtain ⟨⟨c0, c1⟩, K⟩ := hc _ (unhide hS).2.bel
      have q1 : (i : Int) < (N : Int) := by omega
      have q0 : (0 : Int) ≤ (i : Int) := by omega
      have HT := hide t1
      clear t1 hc
      go_wp2_with fail
      refine K.mono ?_
      rintro x w2 ⟨p, ga, rfl, hTw, b2⟩
      have hZ : List.replicate (N + 2 - i) lgZ = lgZ :: List.replicate (N + 2 - (i + 1)) lgZ := by
        rw [show N + 2 - i = (N + 2 - (i + 1)) + 1 by omega, List.replicate_succ]
      have hS1 := (unhide hS).2
      rw [hZ] at hS1
      have hS2 := hS1.bw b2
      have hpl := (unhide hS).1
      have d0 : w2.cell? ⟨w.heap.size, i * 2, none⟩ = some (.int .i64 0) := hS2.at (k := 0) (j := 0) rfl hpl.symm (by omega) rfl
      have d1 : w2.cell? ⟨w.heap.size, i * 2 + 1, none⟩ = some (.slice none 0 0) := hS2.at (k := 0) (j := 1) rfl hpl.symm (by omega) rfl
      have fz := fun j => froz_b (i := j) hS2.blk
      have HX : Hid ((ps ++ [p]).length = i + 1 ∧ TwG w ((w2.setCell ⟨w.heap.size, i * 2, none⟩ (.int .i64 g0)).setCell ⟨w.heap.size, i * 2 + 1, none⟩ (.slice (some ⟨ga, 0, none⟩) LA (LA + 2))) l (ps ++ [p]) (List.replicate (N + 2 - (i + 1)) lgZ)) := by
        refine ⟨by simp [hpl], ?_⟩
        have := hS1.next b2 (by rw [hpl]; exact unhide HT) (unhide hTw).1
        rw [hpl, (unhide hTw).2] at this
        exact this
      clear c0 c1 K hS hS1 hS2 hTw hZ hpl b2
      go_wp2_with fail
      go_roundw
      case rel => exact ⟨i + 1, _, by go_num, by omega, HX⟩
      case measure => simp [intOf]; omega
    · obtain rfl : i = N := by omega
      have HM : Hid (ps.length = i ∧ TwG w wr l ps [if 1 ≤ 0 then lgM i else lgZ, if 2 ≤ 0 then lgM (i + 1) else lgZ]) := by
        have := unhide hS
        rw [show i + 2 - i = 2 by omega] at this
        exact this
      clear hS HC hmk
      go_wp2_with fail
      go_loopw [6] (fun iv wr => ∃ (k x : Nat), iv = .int .i64 (x : Int) ∧ k ≤ 2 ∧ x = i + k ∧ Hid (ps.length = i ∧ TwG w wr l ps [if 1 ≤ k then lgM i else lgZ, if 2 ≤ k then lgM (i + 1) else lgZ])) (fun iv _ => (i + 2 - (intOf iv)).toNat)
      case atStart => exact ⟨0, i, rfl, by omega, rfl, HM⟩
      case round =>
        clear HM
        obtain ⟨k, x, rfl, hk, hx, hM⟩ := hrel
        by_cases hk2 : k < 2
        · have K := markLog_any x wr (by omega)
          have q1 : (x : Int) < (i : Int) + 2 := by omega
          have q0 : (0 : Int) ≤ (x : Int) := by omega
          have q5 : decide (x < i + 2) = true := decide_eq_true (by omega)
          have HX := hide hx
          have xb : (x : Int) ≤ 262150 := by omega
          clear hx
          go_wp2_with fail
          refine K.mono ?_
          rintro y w2 ⟨rfl, b2⟩
          have hM2 := (unhide hM).2.bw b2
          have hpl : x = ps.length + k := by rw [(unhide hM).1]; exact unhide HX
          have hmk : [if 1 ≤ k then lgM i else lgZ, if 2 ≤ k then lgM (i + 1) else lgZ][k]? = some lgZ := by
            match k, hk2 with
            | 0, _ => rfl
            | 1, _ => rfl
          have d0 : w2.cell? ⟨w.heap.size, x * 2, none⟩ = some (.int .i64 0) := hM2.at (j := 0) hmk hpl (by omega) rfl
          have d1 : w2.cell? ⟨w.heap.size, x * 2 + 1, none⟩ = some (.slice none 0 0) := hM2.at (j := 1) hmk hpl (by omega) rfl
          have fz := fun j => froz_b (i := j) hM2.blk
          have HX2 : Hid (ps.length = i ∧ TwG w ((w2.setCell ⟨w.heap.size, x * 2, none⟩ (.int .i64 (mkI x))).setCell ⟨w.heap.size, x * 2 + 1, none⟩ (.slice none 0 0)) l ps [if 1 ≤ k + 1 then lgM i else lgZ, if 2 ≤ k + 1 then lgM (i + 1) else lgZ]) := by
            refine ⟨(unhide hM).1, ?_⟩
            have := hM2.put k (by simp; omega) (lgM x) rfl
            rw [← hpl] at this
            have e : [if 1 ≤ k then lgM i else lgZ, if 2 ≤ k then lgM (i + 1) else lgZ].set k (lgM x) = [if 1 ≤ k + 1 then lgM i else lgZ, if 2 ≤ k + 1 then lgM (i + 1) else lgZ] := by
              rw [unhide HX]
              match k, hk2 with
              | 0, _ => rfl
              | 1, _ => rfl
            rw [e] at this
            exact this
          have hxi : x + 1 = i + (k + 1) := by have := unhide HX; omega
          have HXI := hide hxi
          clear K hM hM2 hxi hpl hmk b2
          generalize mkI x = mm at *
          go_wp2_with fail
          go_roundw
          case rel => exact ⟨k + 1, x + 1, by go_num, by omega, unhide HXI, HX2⟩
          case measure => simp [intOf]; omega
        · obtain rfl : k = 2 := by omega
          subst hx
          have q1 : decide ((((i + 2 : Nat)) : Int) < (i : Int) + 2) = false := decide_eq_false (by omega)
          go_wp2_with fail
          go_ret
          exact ⟨ps, rfl, (unhide hM).1, (unhide hM).2, (unhide hM).2.bel⟩
end Go.Proofs.YtnfhbmlmemifjaaGreatDoor

/- LeftLogs: logs that nobody has touched. -/
namespace Go.Proofs.YtnfhbmlmemifjaaGreatDoor
open Go.RowKit Go.Maps
structure TwLs (B : Nat) (W : World) (G : Nat) (l : List (Int × List Cm)) (ps : List Lq) : Prop where
  low : B ≤ G
  pl : ps.length = l.length
  blk : W.heap[G]? = some (.cells (rowsG l ps ++ [lgM l.length, lgM (l.length + 1)]).flatten.toArray 95 (0, 0))
  each : ∀ (j : Nat) (c : Int × List Cm) (p : Lq), l[j]? = some c → ps[j]? = some p → p.tw B W c
  nog : ∀ (j : Nat) (p : Lq) (k : Nat), ps[j]? = some p → k ∈ p.blocks → k ≠ G
  apart : ∀ (i j : Nat) (p q : Lq) (k : Nat), ps[i]? = some p → ps[j]? = some q → k ∈ p.blocks → k ∈ q.blocks → i = j
theorem TwG.fin {w W : World} {l : List (Int × List Cm)} {ps : List Lq} (h : TwG w W l ps [lgM l.length, lgM (l.length + 1)]) (hp : ps.length = l.length) : TwLs w.heap.size W w.heap.size l ps :=
  ⟨Nat.le_refl _, hp, h.blk, fun j c p h1 h2 => TwCs.keep (h.each j c p h1 h2) (by omega) (fun _ _ _ => rfl), fun j p k h1 h2 => by
    obtain ⟨c, hc⟩ : ∃ c, l[j]? = some c := ⟨_, List.getElem?_eq_getElem (by rw [← hp]; exact (List.getElem?_eq_some_iff.1 h1).1)⟩
    have := (Lq.range (h.each j c p hc h1) h2).1
    omega, h.apart⟩
theorem TwLs.keep {B B' : Nat} {W W' : World} {G : Nat} {l : List (Int × List Cm)} {ps : List Lq} (h : TwLs B W G l ps) (hB : B' ≤ B) (hk : ∀ k, B ≤ k → k < W.heap.size → W'.heap[k]? = W.heap[k]?) : TwLs B' W' G l ps :=
  ⟨Nat.le_trans hB h.low, h.pl, by rw [hk G h.low (lt_of_blk h.blk)]; exact h.blk, fun j c p h1 h2 => TwCs.keep (h.each j c p h1 h2) hB hk, h.nog, h.apart⟩
theorem TwLs.bw {B : Nat} {W W' : World} {G : Nat} {l : List (Int × List Cm)} {ps : List Lq} (h : TwLs B W G l ps) (hb : Below W.heap.size W W') : TwLs B W' G l ps := h.keep (Nat.le_refl _) (fun k _ hk => hb.block k hk)
theorem rowsG_get {l : List (Int × List Cm)} {ps : List Lq} {i : Nat} {c : Int × List Cm} {p : Lq} (h1 : l[i]? = some c) (h2 : ps[i]? = some p) : (rowsG l ps)[i]? = some (p.row c) := by
  unfold rowsG
  rw [List.getElem?_zipWith, h1, h2]
theorem TwLs.all {B : Nat} {W : World} {G : Nat} {l : List (Int × List Cm)} {ps : List Lq} (_ : TwLs B W G l ps) : ∀ r ∈ rowsG l ps ++ [lgM l.length, lgM (l.length + 1)], r.length = 2 := fun r hr => by
  rcases List.mem_append.1 hr with d | d
  · exact rowsG_len r d
  · simp at d; rcases d with rfl | rfl <;> rfl
theorem TwLs.cell {B : Nat} {W : World} {G : Nat} {l : List (Int × List Cm)} {ps : List Lq} (h : TwLs B W G l ps) {i j : Nat} {c : Int × List Cm} {p : Lq} {v : Value} (h1 : l[i]? = some c) (h2 : ps[i]? = some p) (hj : j < 2) (hv : (p.row c)[j]? = some v) : W.cell? ⟨G, i * 2 + j, none⟩ = some v := by
  refine blk_c h.blk ?_
  have hi := (List.getElem?_eq_some_iff.1 (rowsG_get h1 h2)).1
  rw [List.getElem?_toArray, fl_get h.all hj, List.getElem?_append_left hi, rowsG_get h1 h2]
  exact hv
theorem TwLs.mark {B : Nat} {W : World} {G : Nat} {l : List (Int × List Cm)} {ps : List Lq} (h : TwLs B W G l ps) {k j x : Nat} {v : Value} (hk : k < 2) (hx : x = l.length + k) (hj : j < 2) (hv : (lgM x)[j]? = some v) : W.cell? ⟨G, x * 2 + j, none⟩ = some v := by
  refine blk_c h.blk ?_
  have hz : (rowsG l ps).length = l.length := by rw [rowsG_size (by rw [h.pl]; exact Nat.le_refl _), h.pl]
  have hm : [lgM l.length, lgM (l.length + 1)][k]? = some (lgM x) := by
    subst hx
    match k, hk with
    | 0, _ => rfl
    | 1, _ => rfl
  rw [List.getElem?_toArray, fl_get h.all hj, List.getElem?_append_right (by omega), hz, hx, Nat.add_sub_cancel_left, hm]
  exact hv
set_option maxRecDepth 100000 in
set_option maxHeartbeats 8000000 in
theorem leftlogs_any (w : World) (B G : Nat) (v : Value) (l : List (Int × List Cm)) (ps : List Lq) (ht : TwLs B w G l ps) (h : Lgs w v l) (hl : l.length ≤ 262144) (hB : ∀ c ∈ l, LgB c) :
    Calls Tryz.prog 20 #[.slice (some ⟨G, 0, none⟩) l.length (l.length + 2), v] w fun e w' => e = .returned (.bool true) ∧ Below w.heap.size w w' := by
  obtain ⟨a, c, rfl⟩ := h.slice
  have HC : Hid (∀ i, i < l.length → ∃ b o g0 a1 LA k1 ga, a = some ⟨b, o, none⟩ ∧ ∀ W, Below w.heap.size w W → ((W.cell? ⟨G, i * 2, none⟩ = some (.int .i64 g0) ∧ W.cell? ⟨G, i * 2 + 1, none⟩ = some (.slice (some ⟨ga, 0, none⟩) LA (LA + 2))) ∧ (W.cell? ⟨b, o + i * 2, none⟩ = some (.int .i64 g0) ∧ W.cell? ⟨b, o + i * 2 + 1, none⟩ = some (.slice a1 LA k1))) ∧
      Calls Tryz.prog 49 #[.agg #[.int .i64 g0, .slice (some ⟨ga, 0, none⟩) LA (LA + 2)], .agg #[.int .i64 g0, .slice a1 LA k1]] W fun x w' => x = .returned (.bool true) ∧ Below W.heap.size W w') := fun i hi => by
    obtain ⟨cm, hcm⟩ : ∃ cm, l[i]? = some cm := ⟨_, List.getElem?_eq_getElem hi⟩
    obtain ⟨p, hp⟩ : ∃ p, ps[i]? = some p := ⟨_, List.getElem?_eq_getElem (by rw [ht.pl]; exact hi)⟩
    obtain ⟨b, o, e, x, hx, hc0, hc1⟩ := h.get hcm
    obtain ⟨a1, k1, e1⟩ := hx.slice
    refine ⟨b, o, cm.1, a1, cm.2.length, k1, p.g, e, fun W hW => ⟨⟨?_, ?_⟩, ?_⟩⟩
    · have ht' := ht.bw hW
      exact ⟨ht'.cell hcm hp (j := 0) (by omega) rfl, ht'.cell hcm hp (j := 1) (by omega) rfl⟩
    · refine ⟨?_, ?_⟩
      · rw [hW.cell (World.block_lt_of_cell? w _ hc0)]; exact hc0
      · rw [← e1, hW.cell (World.block_lt_of_cell? w _ hc1)]; exact hc1
    · have hb := hB cm (List.mem_of_getElem? hcm)
      have K := leftlog_any W B p cm.1 x cm.2 (TwCs.bw (ht.each i cm p hcm hp) hW) (hx.bw hW) hb.1 hb.2
      rw [e1] at K
      exact K
  have HMK : Hid (∀ W, Below w.heap.size w W → ∀ k x, k < 2 → x = l.length + k → (W.cell? ⟨G, x * 2, none⟩ = some (.int .i64 (mkI x)) ∧ W.cell? ⟨G, x * 2 + 1, none⟩ = some (.slice none 0 0))) := fun W hW k x hk hx => by
    have ht' := ht.bw hW
    exact ⟨ht'.mark hk hx (j := 0) (by omega) rfl, ht'.mark hk hx (j := 1) (by omega) rfl⟩
  obtain ⟨N, hN⟩ : ∃ N, N = l.length := ⟨_, rfl⟩
  rw [← hN] at HC HMK ⊢
  have hNI : (N : Int) ≤ 262144 := by omega
  have hsl : ∀ W, (Instr.slice 22 (.slice (some ⟨G, 0, none⟩) N (N + 2)) none (some (.int .i64 ((N : Int) + 2))) none).run Tryz.prog W = .ok (.slice (some ⟨G, 0, none⟩) (N + 2) (N + 2)) W := fun W => by
    have := slice_roomLog W G N (N + 2) (N + 2) (Nat.le_refl _)
    exact this
  clear h hl hB hN ht
  go_enter Tryz.func20, Tryz.ntmps20
  go_wp2_with fail
  go_loopw [15] (fun iv wr => ∃ (i : Nat), iv = .int .i64 (i : Int) ∧ i ≤ N ∧ Hid (Below w.heap.size w wr)) (fun iv _ => (N - (intOf iv)).toNat)
  case atStart => exact ⟨0, rfl, by omega, Below.refl _ _⟩
  case round =>
    obtain ⟨i, rfl, hi, hbel⟩ := hrel
    by_cases hin : i < N
    · obtain ⟨b, o, g0, a1, LA, k1, ga, rfl, hc⟩ := unhide HC i hin
      have q1 : (i : Int) < (N : Int) := by omega
      have q0 : (0 : Int) ≤ (i : Int) := by omega
      have S0 := (hc _ (unhide hbel)).1
      have S00 := (hc _ (unhide hbel).drew).1
      have K0 : Hid (Calls Tryz.prog 49 #[.agg #[.int .i64 g0, .slice (some ⟨ga, 0, none⟩) LA (LA + 2)], .agg #[.int .i64 g0, .slice a1 LA k1]] wr.drew fun e w' => e = .returned (.bool true) ∧ Hid (Below w.heap.size w w') ∧ (w'.cell? ⟨G, i * 2, none⟩ = some (.int .i64 g0) ∧ w'.cell? ⟨G, i * 2 + 1, none⟩ = some (.slice (some ⟨ga, 0, none⟩) LA (LA + 2))) ∧ (w'.cell? ⟨b, o + i * 2, none⟩ = some (.int .i64 g0) ∧ w'.cell? ⟨b, o + i * 2 + 1, none⟩ = some (.slice a1 LA k1))) := by
        refine Calls.mono (hc _ (unhide hbel).drew).2 ?_
        rintro e w' ⟨h1, h2⟩
        have b9 := bw_tr (unhide hbel).drew h2
        exact ⟨h1, b9, (hc _ b9).1⟩
      clear hc hbel HC HMK
      go_wp2_with fail
      go_region_held3 (fun w' : World => (w'.cell? ⟨G, i * 2, none⟩ = some (.int .i64 g0) ∧ w'.cell? ⟨G, i * 2 + 1, none⟩ = some (.slice (some ⟨ga, 0, none⟩) LA (LA + 2))) ∧ (w'.cell? ⟨b, o + i * 2, none⟩ = some (.int .i64 g0) ∧ w'.cell? ⟨b, o + i * 2 + 1, none⟩ = some (.slice a1 LA k1))) (first | with_reducible exact S0 | with_reducible exact S00 | with_reducible exact S1) (first
        | (go_at_call 49; refine (unhide K0).mono ?_; rintro e z1 ⟨rfl, B1, S1⟩)
        | fail)
      all_goals
        clear S0 S00 S1 K0
        go_wp2_with fail
        go_roundw
        case rel => exact ⟨i + 1, by go_num, by omega, B1⟩
        case measure => simp [intOf]; omega
    · obtain rfl : i = N := by omega
      clear HC
      go_wp2_with fail
      go_loopw [7] (fun iv wq => ∃ (k x : Nat), iv = .int .i64 (x : Int) ∧ k ≤ 2 ∧ x = i + k ∧ Hid (Below w.heap.size w wq)) (fun iv _ => (i + 2 - (intOf iv)).toNat)
      case atStart => exact ⟨0, i, rfl, by omega, rfl, hbel⟩
      case round =>
        obtain ⟨k, x, rfl, hk, hx, hbel2⟩ := hrel
        by_cases hk2 : k < 2
        · obtain ⟨n0, n1⟩ := unhide HMK _ (unhide hbel2) k x hk2 hx
          have K := isLog_any x wr (by omega)
          have q1 : (x : Int) < (i : Int) + 2 := by omega
          have q0 : (0 : Int) ≤ (x : Int) := by omega
          have q5 : decide (x < i + 2) = true := decide_eq_true (by omega)
          have xb : (x : Int) ≤ 262150 := by omega
          have HX : Hid (x + 1 = i + (k + 1)) := by unfold Hid; omega
          clear hx
          generalize mkI x = mm at *
          go_wp2_with fail
          refine K.mono ?_
          rintro y w2 ⟨rfl, b2⟩
          have b3 := hide (bw_tr (unhide hbel2) b2)
          clear K b2 n0 n1
          go_wp2_with fail
          go_roundw
          case rel => exact ⟨k + 1, x + 1, by go_num, by omega, unhide HX, b3⟩
          case measure => simp [intOf]; omega
        · obtain rfl : k = 2 := by omega
          subst hx
          have q1 : decide ((((i + 2 : Nat)) : Int) < (i : Int) + 2) = false := decide_eq_false (by omega)
          go_wp2_with fail
          go_ret
          exact ⟨rfl, unhide hbel2⟩
end Go.Proofs.YtnfhbmlmemifjaaGreatDoor
