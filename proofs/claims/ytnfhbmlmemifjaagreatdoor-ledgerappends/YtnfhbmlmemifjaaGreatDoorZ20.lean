/- Texts joined: LgKCommit LgM LgKLog. -/
import Derived.Test.YtnfhbmlmemifjaaGreatDoorZ19
import Derived.Test.YtnfhbmlmemifjaaGreatDoorZ14
/- fresh.List of Commits: a list of copies, in memory of its own. -/
namespace Go.Proofs.YtnfhbmlmemifjaaGreatDoor
open Go.RowKit Go.Maps
set_option maxRecDepth 100000 in
set_option maxHeartbeats 8000000 in
theorem listCommit_any {w : World} {v : Value} {l : List Cm} {xs : List (Cv × List Value)} (h : RdL kCm w v l xs) (hl : l.length ≤ 1073741824) :
    Calls Tryz.prog 265 #[v, .func (.func 37) #[] #[]] w fun e w' => ∃ v' xs', e = .returned v' ∧ OwL kCm w.heap.size w' v' l xs' ∧ Below w.heap.size w w' := by
  obtain ⟨ad, cap, rfl, hsrc⟩ := h.form
  have KC := hide (cloneCommit_any (w := w) (a := ad) (cap := cap) (cs := cellK kCm l xs) (cellK_len h.xl) (cellK_one h.xl h.el) hl (hsrc.imp (fun c => by rw [c]; rfl) (fun c => c)))
  have HC : Hid (∀ (w1 wr : World) (v : Value) (g : Nat) (xs : List (Cv × List Value)) (i : Nat), CpL kCm w.heap.size w w1 wr v g l xs i → i < l.length → ∃ (a : Cm) (g0 : Int) (g1 : Int) (g2 : Int) (g3 : Int) (g4 : Int) (g5 : Bool) (a1 : Option Addr) (LA : Nat) (k1 : Nat) (a2 : Option Addr) (LR : Nat) (k2 : Nat) (a3 : Option Addr) (LQ : Nat) (k3 : Nat) (a4 : Option Addr) (LJ : Nat) (k4 : Nat) (g10 : Int) (g11 : Int) (a5 : Option Addr) (LN : Nat) (k5 : Nat) (g13 : Int) (g14 : Int), l[i]? = some a ∧ (∀ W, Below wr.heap.size wr W → (W.cell? ⟨g, i * 15, none⟩ = some (.int .i64 g0) ∧ W.cell? ⟨g, i * 15 + 1, none⟩ = some (.int .i64 g1) ∧ W.cell? ⟨g, i * 15 + 2, none⟩ = some (.int .i64 g2) ∧ W.cell? ⟨g, i * 15 + 3, none⟩ = some (.int .i64 g3) ∧ W.cell? ⟨g, i * 15 + 4, none⟩ = some (.int .i64 g4) ∧ W.cell? ⟨g, i * 15 + 5, none⟩ = some (.bool g5) ∧ W.cell? ⟨g, i * 15 + 6, none⟩ = some (.slice a1 LA k1) ∧ W.cell? ⟨g, i * 15 + 7, none⟩ = some (.slice a2 LR k2) ∧ W.cell? ⟨g, i * 15 + 8, none⟩ = some (.slice a3 LQ k3) ∧ W.cell? ⟨g, i * 15 + 9, none⟩ = some (.slice a4 LJ k4) ∧ W.cell? ⟨g, i * 15 + 10, none⟩ = some (.int .i64 g10) ∧ W.cell? ⟨g, i * 15 + 11, none⟩ = some (.int .i64 g11) ∧ W.cell? ⟨g, i * 15 + 12, none⟩ = some (.slice a5 LN k5) ∧ W.cell? ⟨g, i * 15 + 13, none⟩ = some (.int .i64 g13) ∧ W.cell? ⟨g, i * 15 + 14, none⟩ = some (.int .i64 g14))) ∧
      ∀ W, Below w.heap.size w W → Calls Tryz.prog 37 #[.agg #[.int .i64 g0, .int .i64 g1, .int .i64 g2, .int .i64 g3, .int .i64 g4, .bool g5, .slice a1 LA k1, .slice a2 LR k2, .slice a3 LQ k3, .slice a4 LJ k4, .int .i64 g10, .int .i64 g11, .slice a5 LN k5, .int .i64 g13, .int .i64 g14]] W fun x w' => ∃ a1' k1' a2' k2' a3' k3' a4' k4' a5' k5' x', x = .returned (.agg #[.int .i64 g0, .int .i64 g1, .int .i64 g2, .int .i64 g3, .int .i64 g4, .bool g5, .slice a1' LA k1', .slice a2' LR k2', .slice a3' LQ k3', .slice a4' LJ k4', .int .i64 g10, .int .i64 g11, .slice a5' LN k5', .int .i64 g13, .int .i64 g14]) ∧ Hid (kCm.O W.heap.size w' a x' ∧ kCm.C a x' = [.int .i64 g0, .int .i64 g1, .int .i64 g2, .int .i64 g3, .int .i64 g4, .bool g5, .slice a1' LA k1', .slice a2' LR k2', .slice a3' LQ k3', .slice a4' LJ k4', .int .i64 g10, .int .i64 g11, .slice a5' LN k5', .int .i64 g13, .int .i64 g14]) ∧ Below W.heap.size W w') := by
    intro w1 wr v g xs i hcp hi
    obtain ⟨a, x, ha, hx, hR, hc⟩ := hcp.at hi
    obtain ⟨a1, k1, e1⟩ := hR.1.adds.slice
    obtain ⟨a2, k2, e2⟩ := nums_slice hR.1.rem
    obtain ⟨a3, k3, e3⟩ := hR.1.seals.slice
    obtain ⟨a4, k4, e4⟩ := hR.1.joins.slice
    obtain ⟨a5, k5, e5⟩ := hR.1.next.slice
    have KF := fun W hW => frCommit_any (w := W) (hR.1.bw hW) hR.2
    obtain ⟨⟨av, rv, qv, jv, nv⟩, us⟩ := x
    simp only at e1 e2 e3 e4 e5
    subst e1 e2 e3 e4 e5
    refine ⟨a, a.gr, a.ep, a.dev, a.mem, a.ke, a.ext, a1, a.adds.length, k1, a2, a.rem.length, k2, a3, a.seals.length, k3, a4, a.joins.length, k4, a.own, a.ent, a5, a.next.length, k5, a.face, a.card, ha, fun W hW => ?_, fun W hW => ?_⟩
    · have e := fun j u hu => by have := hc j u hu; rw [← (hW.cell (lt_of_cell this))] at this; exact this
      exact ⟨e 0 _ rfl, e 1 _ rfl, e 2 _ rfl, e 3 _ rfl, e 4 _ rfl, e 5 _ rfl, e 6 _ rfl, e 7 _ rfl, e 8 _ rfl, e 9 _ rfl, e 10 _ rfl, e 11 _ rfl, e 12 _ rfl, e 13 _ rfl, e 14 _ rfl⟩
    · have hR' := hR
      refine (KF W hW).mono ?_
      rintro y w' ⟨x', us', rfl, ho, hb⟩
      obtain ⟨a1', k1', e1⟩ := own_slice ho.adds
      obtain ⟨a2', k2', e2⟩ := own_slice ho.rem
      obtain ⟨a3', k3', e3⟩ := own_slice ho.seals
      obtain ⟨a4', k4', e4⟩ := own_slice ho.joins
      obtain ⟨a5', k5', e5⟩ := own_slice ho.next.row
      obtain ⟨av, rv, qv, jv, nv⟩ := x'
      simp only at e1 e2 e3 e4 e5
      subst e1 e2 e3 e4 e5
      exact ⟨a1', k1', a2', k2', a3', k3', a4', k4', a5', k5', (_, us'), rfl, ⟨ho, rfl⟩, hb⟩
  have HR := hide h
  obtain ⟨N, hN⟩ : ∃ N, N = l.length := ⟨_, rfl⟩
  rw [← hN] at KC HC hl ⊢
  have hNI : (N : Int) ≤ 1073741824 := by omega
  have HN := hide hN
  clear h hsrc hl hN
  rcases Nat.eq_zero_or_pos N with h0 | h0
  · subst h0
    go_enter Tryz.func265, Tryz.ntmps265
    go_wp2_with fail
    refine (unhide KC).mono ?_
    rintro e w1 ⟨v1, rfl, ho, b1⟩
    obtain ⟨a1, c1, rfl⟩ := own_slice ho
    have HO := hide (And.intro ho b1)
    clear ho b1 KC HC
    go_wp2_with fail
    go_loopw [12] (fun iv wr => iv = .int .i64 0 ∧ wr = w1) (fun _ _ => 0)
    case atStart => exact ⟨rfl, rfl⟩
    case round =>
      obtain ⟨rfl, rfl⟩ := hrel
      go_wp2_with fail
      go_ret
      have hl0 : l = [] := List.eq_nil_of_length_eq_zero (unhide HN).symm
      have hx0 : xs = [] := List.eq_nil_of_length_eq_zero (by rw [(unhide HR).xl, hl0]; rfl)
      subst hl0 hx0
      exact ⟨_, [], rfl, ⟨rfl, (unhide HO).1, by simp, by simp, by simp⟩, (unhide HO).2⟩
  · go_enter Tryz.func265, Tryz.ntmps265
    go_wp2_with fail
    refine (unhide KC).mono ?_
    rintro e w1 ⟨v1, rfl, ho, b1⟩
    obtain ⟨g, c1, rfl, hg, _, _⟩ := own_open ho h0
    have S0 : Hid (CpL kCm w.heap.size w w1 w1 (.slice (some ⟨g, 0, none⟩) N c1) g l xs 0) := CpL.start (unhide HR) (by rw [← unhide HN]; exact ho) rfl
    have HB := hide (And.intro b1 hg)
    clear ho b1 KC hg
    go_wp2_with fail
    go_loopw [12] (fun iv wr => ∃ (i : Nat) (xs' : List (Cv × List Value)), iv = .int .i64 (i : Int) ∧ i ≤ N ∧ Hid (CpL kCm w.heap.size w w1 wr (.slice (some ⟨g, 0, none⟩) N c1) g l xs' i)) (fun iv _ => (N - intOf iv).toNat)
    case atStart => exact ⟨0, xs, rfl, Nat.zero_le _, S0⟩
    case round =>
      clear S0
      obtain ⟨i, xs', rfl, hi, HS⟩ := hrel
      by_cases hlt : i < N
      · obtain ⟨a, g0, g1, g2, g3, g4, g5, a1, LA, k1, a2, LR, k2, a3, LQ, k3, a4, LJ, k4, g10, g11, a5, LN, k5, g13, g14, ha, hcl, KF⟩ := unhide HC w1 wr _ g xs' i (unhide HS) hlt
        obtain ⟨c0_, c1_, c2_, c3_, c4_, c5_, c6_, c7_, c8_, c9_, c10_, c11_, c12_, c13_, c14_⟩ := hcl wr (Below.refl _ _)
        obtain ⟨W1, hW1⟩ : ∃ W, W = wr.alloc (.cells #[.int .i64 g0, .int .i64 g1, .int .i64 g2, .int .i64 g3, .int .i64 g4, .bool g5, .slice a1 LA k1, .slice a2 LR k2, .slice a3 LQ k3, .slice a4 LJ k4, .int .i64 g10, .int .i64 g11, .slice a5 LN k5, .int .i64 g13, .int .i64 g14] 34) := ⟨_, rfl⟩
        have hz : W1.heap[wr.heap.size]? = some (.cells #[.int .i64 g0, .int .i64 g1, .int .i64 g2, .int .i64 g3, .int .i64 g4, .bool g5, .slice a1 LA k1, .slice a2 LR k2, .slice a3 LQ k3, .slice a4 LJ k4, .int .i64 g10, .int .i64 g11, .slice a5 LN k5, .int .i64 g13, .int .i64 g14] 34 (0, 0)) := by
          rw [hW1]; exact heap_alloc_new _ _
        have bz : Below wr.heap.size wr W1 := by rw [hW1]; exact bwA _ _
        have bw1 : Below w.heap.size w W1 := bw_tr (Fr.toBase (unhide HB).1 (unhide HS).fr (by intro x hx; rw [List.mem_singleton] at hx; subst hx; exact (World.ownsRow.lt (unhide HS).row x (unhide HS).own).1)) bz
        have q1 : (i : Int) < (N : Int) := by omega
        have q0 : (0 : Int) ≤ (i : Int) := by omega
        have z0_ : W1.cell? ⟨wr.heap.size, 0, none⟩ = some (.int .i64 g0) := blk_c hz rfl
        have z1_ : W1.cell? ⟨wr.heap.size, 1, none⟩ = some (.int .i64 g1) := blk_c hz rfl
        have z2_ : W1.cell? ⟨wr.heap.size, 2, none⟩ = some (.int .i64 g2) := blk_c hz rfl
        have z3_ : W1.cell? ⟨wr.heap.size, 3, none⟩ = some (.int .i64 g3) := blk_c hz rfl
        have z4_ : W1.cell? ⟨wr.heap.size, 4, none⟩ = some (.int .i64 g4) := blk_c hz rfl
        have z5_ : W1.cell? ⟨wr.heap.size, 5, none⟩ = some (.bool g5) := blk_c hz rfl
        have z6_ : W1.cell? ⟨wr.heap.size, 6, none⟩ = some (.slice a1 LA k1) := blk_c hz rfl
        have z7_ : W1.cell? ⟨wr.heap.size, 7, none⟩ = some (.slice a2 LR k2) := blk_c hz rfl
        have z8_ : W1.cell? ⟨wr.heap.size, 8, none⟩ = some (.slice a3 LQ k3) := blk_c hz rfl
        have z9_ : W1.cell? ⟨wr.heap.size, 9, none⟩ = some (.slice a4 LJ k4) := blk_c hz rfl
        have z10_ : W1.cell? ⟨wr.heap.size, 10, none⟩ = some (.int .i64 g10) := blk_c hz rfl
        have z11_ : W1.cell? ⟨wr.heap.size, 11, none⟩ = some (.int .i64 g11) := blk_c hz rfl
        have z12_ : W1.cell? ⟨wr.heap.size, 12, none⟩ = some (.slice a5 LN k5) := blk_c hz rfl
        have z13_ : W1.cell? ⟨wr.heap.size, 13, none⟩ = some (.int .i64 g13) := blk_c hz rfl
        have z14_ : W1.cell? ⟨wr.heap.size, 14, none⟩ = some (.int .i64 g14) := blk_c hz rfl
        have HW : Hid (W1 = wr.alloc (.cells #[.int .i64 g0, .int .i64 g1, .int .i64 g2, .int .i64 g3, .int .i64 g4, .bool g5, .slice a1 LA k1, .slice a2 LR k2, .slice a3 LQ k3, .slice a4 LJ k4, .int .i64 g10, .int .i64 g11, .slice a5 LN k5, .int .i64 g13, .int .i64 g14] 34)) := hW1
        have KF1 := hide (KF W1 bw1)
        have HX0 := hide (And.intro ha (And.intro bz (fun W hW => hcl W hW)))
        clear hW1 hz bz bw1 KF ha hcl
        go_upto_region 5 with fail
        rw [← unhide HW]
        clear HW c0_ c1_ c2_ c3_ c4_ c5_ c6_ c7_ c8_ c9_ c10_ c11_ c12_ c13_ c14_
        go_wp2_with fail
        refine (unhide KF1).mono ?_
        rintro x w2 ⟨a1', k1', a2', k2', a3', k3', a4', k4', a5', k5', x', rfl, hO, b2⟩
        obtain ⟨d0_, d1_, d2_, d3_, d4_, d5_, d6_, d7_, d8_, d9_, d10_, d11_, d12_, d13_, d14_⟩ := (unhide HX0).2.2 w2 (bw_tr (unhide HX0).2.1 b2)
        have hS2 := (unhide HS).bw (bw_tr (unhide HX0).2.1 b2)
        have fz := fun j => own_frozen hS2.row (g := g) rfl j
        have HX : Hid (CpL kCm w.heap.size w w1 ((((((((((((((((w2).setCell ⟨g, i * 15, none⟩ (.int .i64 g0)).setCell ⟨g, i * 15 + 1, none⟩ (.int .i64 g1)).setCell ⟨g, i * 15 + 2, none⟩ (.int .i64 g2)).setCell ⟨g, i * 15 + 3, none⟩ (.int .i64 g3)).setCell ⟨g, i * 15 + 4, none⟩ (.int .i64 g4)).setCell ⟨g, i * 15 + 5, none⟩ (.bool g5)).setCell ⟨g, i * 15 + 6, none⟩ (.slice a1' LA k1')).setCell ⟨g, i * 15 + 7, none⟩ (.slice a2' LR k2')).setCell ⟨g, i * 15 + 8, none⟩ (.slice a3' LQ k3')).setCell ⟨g, i * 15 + 9, none⟩ (.slice a4' LJ k4')).setCell ⟨g, i * 15 + 10, none⟩ (.int .i64 g10)).setCell ⟨g, i * 15 + 11, none⟩ (.int .i64 g11)).setCell ⟨g, i * 15 + 12, none⟩ (.slice a5' LN k5')).setCell ⟨g, i * 15 + 13, none⟩ (.int .i64 g13)).setCell ⟨g, i * 15 + 14, none⟩ (.int .i64 g14)) (.slice (some ⟨g, 0, none⟩) N c1) g l (xs'.set i x') (i + 1)) := by
          have := ((unhide HS).bw (unhide HX0).2.1).step (unhide HX0).1 b2 (unhide hO).1 (unhide HB).2
          rw [(unhide hO).2] at this
          exact this
        clear hS2 HX0 hO b2 KF1 z0_ z1_ z2_ z3_ z4_ z5_ z6_ z7_ z8_ z9_ z10_ z11_ z12_ z13_ z14_
        go_wp2_with fail
        go_roundw
        case rel => exact ⟨i + 1, _, by go_num, by omega, HX⟩
        case measure => simp [intOf]; omega
      · obtain rfl : i = N := by omega
        have HO : Hid (OwL kCm w.heap.size wr (.slice (some ⟨g, 0, none⟩) i c1) l xs' ∧ Below w.heap.size w wr) := by
          have hS := unhide HS
          refine ⟨?_, Fr.toBase (unhide HB).1 hS.fr (by intro x hx; rw [List.mem_singleton] at hx; subst hx; exact (World.ownsRow.lt hS.row x hS.own).1)⟩
          have e := unhide HN
          have hS' : CpL kCm w.heap.size w w1 wr (.slice (some ⟨g, 0, none⟩) i c1) g l xs' l.length := by rw [← e]; exact hS
          exact hS'.done (unhide HB).1.size (unhide HB).2
        clear HS HC
        go_wp2_with fail
        go_ret
        exact ⟨_, xs', rfl, (unhide HO).1, (unhide HO).2⟩
end Go.Proofs.YtnfhbmlmemifjaaGreatDoor

/- Logs: to be read and of one's own; a log's copy (fresh.Log). -/
namespace Go.Proofs.YtnfhbmlmemifjaaGreatDoor
open Go.RowKit Go.Maps
theorem choose_list {α ξ : Type} : ∀ (l : List α) {P : Nat → α → ξ → Prop}, (∀ (i : Nat) (a : α), l[i]? = some a → ∃ x, P i a x) → ∃ xs : List ξ, xs.length = l.length ∧ ∀ (i : Nat) (a : α) (x : ξ), l[i]? = some a → xs[i]? = some x → P i a x
  | [], P, _ => ⟨[], rfl, by simp⟩
  | b :: l, P, h => by
    obtain ⟨x, hx⟩ := h 0 b rfl
    obtain ⟨xs, h1, h2⟩ := choose_list l (P := fun i a x => P (i + 1) a x) (fun i a ha => h (i + 1) a (by rw [List.getElem?_cons_succ]; exact ha))
    refine ⟨x :: xs, by simp [h1], fun i a y ha hy => ?_⟩
    cases i with
    | zero => simp at ha hy; subst ha hy; exact hx
    | succ i => rw [List.getElem?_cons_succ] at ha hy; exact h2 i a y ha hy
theorem Cms.rdl {w : World} {v : Value} {l : List Cm} (h : Cms w v l) (hs : ∀ c ∈ l, SmC c) : ∃ xs, RdL kCm w v l xs := by
  obtain ⟨hl, a, cap, rfl, hc⟩ := h
  rcases hc with rfl | ⟨g, o, rfl, hc⟩
  · exact ⟨[], rfl, by simp, a, cap, rfl, Or.inl rfl⟩
  · obtain ⟨xs, h1, h2⟩ := choose_list l (P := fun i c x => CmR w c x ∧ ∀ j u, (cmC c x)[j]? = some u → w.cell? ⟨g, o + i * 15 + j, none⟩ = some u) hc
    refine ⟨xs.map (fun x => (x, [])), by simpa using h1, fun i c x hci hx => ?_, _, cap, rfl, Or.inr ⟨g, o, rfl, fun j u hj => ?_⟩⟩
    · rw [List.getElem?_map, Option.map_eq_some_iff] at hx
      obtain ⟨y, hy, rfl⟩ := hx
      exact ⟨(h2 i c y hci hy).1, hs c (List.mem_of_getElem? hci)⟩
    · obtain ⟨i, k, c, x, rfl, hk, hci, hx, hu⟩ := cellK_inv (K := kCm) (by simpa using h1) hj
      rw [List.getElem?_map, Option.map_eq_some_iff] at hx
      obtain ⟨y, hy, rfl⟩ := hx
      have := (h2 i c y hci hy).2 k u hu
      rw [Nat.add_assoc] at this
      exact this
theorem RdL.cms {w : World} {v : Value} {l : List Cm} {xs : List (Cv × List Value)} (h : RdL kCm w v l xs) (hl : l.length ≤ 1073741824) : Cms w v l := by
  obtain ⟨ad, cap, hv, hc⟩ := h.form
  refine ⟨Nat.le_trans hl (by decide), ad, cap, hv, ?_⟩
  rcases hc with c | ⟨g, o, e, hc⟩
  · exact Or.inl c
  · refine Or.inr ⟨g, o, e, fun i c hi => ?_⟩
    have hil : i < xs.length := by rw [h.xl]; exact (List.getElem?_eq_some_iff.1 hi).1
    have hx : xs[i]? = some xs[i] := List.getElem?_eq_getElem hil
    refine ⟨xs[i].1, (h.el i c _ hi hx).1, fun j u hj => ?_⟩
    have := hc _ _ (cellK_get (K := kCm) hi hx hj)
    rw [Nat.add_assoc]
    exact this
theorem OwL.cms {B : Nat} {w : World} {v : Value} {l : List Cm} {xs : List (Cv × List Value)} (h : OwL kCm B w v l xs) (hl : l.length ≤ 1073741824) (hs : ∀ c ∈ l, SmC c) : Cms w v l :=
  (h.rd (fun _ c _ hi _ ho => ⟨OC.rd ho (hs c (List.mem_of_getElem? hi)), hs c (List.mem_of_getElem? hi)⟩)).cms hl
structure SmG (p : Lg) : Prop where
  n : p.2.length ≤ 1073741824
  c : ∀ c ∈ p.2, SmC c
structure SmL (l : List Lg) : Prop where
  n : l.length ≤ 1073741824
  g : ∀ p ∈ l, SmG p
def kLg : EK Lg (Value × List (Cv × List Value)) where
  t := 95
  c := 2
  C := fun p x => [.int .i64 p.1, x.1]
  Z := fun x => zK kCm x.1 x.2
  R := fun w p x => Cms w x.1 p.2 ∧ SmG p
  O := fun B w p x => OwL kCm B w x.1 p.2 x.2
  pos := by decide
  Cl := fun _ _ => rfl
  one := fun w p x h v hv => by
    obtain ⟨a1, k1, e1⟩ := h.1.slice
    simp only [e1, List.mem_cons, List.not_mem_nil, or_false] at hv
    rcases hv with rfl | rfl <;> rfl
  bw := fun w w' p x h hb => ⟨h.1.bw hb, h.2⟩
  keep := fun B w w' p x h hk => OwL.keep h hk
  lt := fun B w p x h => OwL.lt h
  mono := fun B B' w p x h hB => OwL.mono h hB
theorem Lgs.rdl {w : World} {v : Value} {l : List Lg} (h : Lgs w v l) (hs : SmL l) : ∃ xs, RdL kLg w v l xs := by
  obtain ⟨hl, a, cap, rfl, hc⟩ := h
  rcases hc with rfl | ⟨g, o, rfl, hc⟩
  · exact ⟨[], rfl, by simp, a, cap, rfl, Or.inl rfl⟩
  · obtain ⟨xs, h1, h2⟩ := choose_list l (P := fun i p cv => Cms w cv p.2 ∧ w.cell? ⟨g, o + i * 2, none⟩ = some (.int .i64 p.1) ∧ w.cell? ⟨g, o + i * 2 + 1, none⟩ = some cv) hc
    refine ⟨xs.map (fun x => (x, [])), by simpa using h1, fun i c x hci hx => ?_, _, cap, rfl, Or.inr ⟨g, o, rfl, fun j u hj => ?_⟩⟩
    · rw [List.getElem?_map, Option.map_eq_some_iff] at hx
      obtain ⟨y, hy, rfl⟩ := hx
      exact ⟨(h2 i c y hci hy).1, hs.g c (List.mem_of_getElem? hci)⟩
    · obtain ⟨i, k, c, x, rfl, hk, hci, hx, hu⟩ := cellK_inv (K := kLg) (by simpa using h1) hj
      rw [List.getElem?_map, Option.map_eq_some_iff] at hx
      obtain ⟨y, hy, rfl⟩ := hx
      obtain ⟨_, q1, q2⟩ := h2 i c y hci hy
      match k, hk, hu with
      | 0, _, hu => cases hu; exact q1
      | 1, _, hu => cases hu; rw [← Nat.add_assoc]; exact q2
theorem RdL.lgs {w : World} {v : Value} {l : List Lg} {xs : List (Value × List (Cv × List Value))} (h : RdL kLg w v l xs) (hl : l.length ≤ 1073741824) : Lgs w v l := by
  obtain ⟨ad, cap, hv, hc⟩ := h.form
  refine ⟨Nat.le_trans hl (by decide), ad, cap, hv, ?_⟩
  rcases hc with c | ⟨g, o, e, hc⟩
  · exact Or.inl c
  · refine Or.inr ⟨g, o, e, fun i p hi => ?_⟩
    have hil : i < xs.length := by rw [h.xl]; exact (List.getElem?_eq_some_iff.1 hi).1
    have hx : xs[i]? = some xs[i] := List.getElem?_eq_getElem hil
    have q0 := hc _ _ (cellK_get (K := kLg) (j := 0) hi hx rfl)
    have q1 := hc _ _ (cellK_get (K := kLg) (j := 1) hi hx rfl)
    exact ⟨xs[i].1, (h.el i p _ hi hx).1, q0, by rw [Nat.add_assoc]; exact q1⟩
theorem OwL.lgs {B : Nat} {w : World} {v : Value} {l : List Lg} {xs : List (Value × List (Cv × List Value))} (h : OwL kLg B w v l xs) (hs : SmL l) : Lgs w v l :=
  (h.rd (fun _ p _ hi _ ho => ⟨OwL.cms ho (hs.g p (List.mem_of_getElem? hi)).n (hs.g p (List.mem_of_getElem? hi)).c, hs.g p (List.mem_of_getElem? hi)⟩)).lgs hs.n
set_option maxRecDepth 100000 in
set_option maxHeartbeats 4000000 in
theorem frLog_any {w : World} {p : Lg} {v : Value} (h : Cms w v p.2) (hs : SmG p) :
    Calls Tryz.prog 168 #[.agg #[.int .i64 p.1, v]] w fun e w' => ∃ v' xs, e = .returned (.agg #[.int .i64 p.1, v']) ∧ OwL kCm w.heap.size w' v' p.2 xs ∧ Below w.heap.size w w' := by
  obtain ⟨w0, hw0⟩ : ∃ w0, w0 = (w.alloc (.cells #[.int .i64 p.1, v] 95)).alloc (.cells #[.int .i64 0, .slice none 0 0] 95) := ⟨_, rfl⟩
  have s0 : TwoB w w0 95 #[.int .i64 p.1, v] #[.int .i64 0, .slice none 0 0] := by rw [hw0]; exact TwoB.start _ _ _ _
  obtain ⟨xs, hr⟩ := (h.bw s0.bel).rdl hs.c
  have KL := hide (listCommit_any hr hs.n)
  obtain ⟨a, c, rfl⟩ := h.slice
  have S0 := hide s0
  have HW := hide hw0
  clear h hs hr s0 hw0
  obtain ⟨G, l⟩ := p
  simp only at KL S0 HW ⊢
  generalize hN : l.length = N at *
  have HN := hide hN
  clear hN
  go_enter Tryz.func168, Tryz.ntmps168
  go_upto_region 1 with fail
  rw [← unhide HW]
  clear HW
  have c1 : w0.cell? ⟨w.heap.size, 1, none⟩ = some (.slice a N c) := blk_c (unhide S0).k1 rfl
  go_wp2_with fail
  refine (unhide KL).mono ?_
  rintro e w1 ⟨v', xs', rfl, ho, b1⟩
  obtain ⟨a', c', hv⟩ := own_slice ho.row
  have s1 := (unhide S0).bw b1
  have p1 := s1.poke 1 v'
  obtain ⟨V1, hV1⟩ : ∃ V, V = w1.setCell ⟨w.heap.size, 1, none⟩ v' := ⟨_, rfl⟩
  rw [← hV1] at p1
  have s2 : TwoB w V1 95 #[.int .i64 G, v'] #[.int .i64 0, .slice none 0 0] := p1.1
  have an := s2.answer [.int .i64 G, v'] rfl
  obtain ⟨WZ, hWZ⟩ : ∃ W, W = pokes V1 (w.heap.size + 1) 0 [.int .i64 G, v'] := ⟨_, rfl⟩
  rw [← hWZ] at an
  have HO : Hid (OwL kCm w.heap.size WZ v' l xs' ∧ Below w.heap.size w WZ) := by
    have h2 := (unhide S0).two
    refine ⟨(ho.keep (fun k hk => ?_)).mono (by omega), an.2.1⟩
    have h1 := (ho.lt k hk).1
    rw [an.2.2 k (by omega), p1.2 k (by omega)]
  subst hv
  have c1 : w1.cell? ⟨w.heap.size, 1, none⟩ = some (.slice a N c) := blk_c s1.k1 rfl
  have f3 := fun j => froz_b' (i := j) s1.k1
  have d0 : V1.cell? ⟨w.heap.size, 0, none⟩ = some (.int .i64 G) := blk_c s2.k1 rfl
  have d1 : V1.cell? ⟨w.heap.size, 1, none⟩ = some (.slice a' l.length c') := blk_c s2.k1 rfl
  have e0 : V1.cell? ⟨w.heap.size + 1, 0, none⟩ = some (.int .i64 0) := blk_c s2.k2 rfl
  have e1 : V1.cell? ⟨w.heap.size + 1, 1, none⟩ = some (.slice none 0 0) := blk_c s2.k2 rfl
  have fe := fun j => froz_b' (i := j) s2.k2
  have z0 : WZ.cell? ⟨w.heap.size + 1, 0, none⟩ = some (.int .i64 G) := blk_c an.1 rfl
  have z1 : WZ.cell? ⟨w.heap.size + 1, 1, none⟩ = some (.slice a' l.length c') := blk_c an.1 rfl
  have HV := hide hV1
  have HZ : Hid (WZ = (V1.setCell ⟨w.heap.size + 1, 0, none⟩ (.int .i64 G)).setCell ⟨w.heap.size + 1, 1, none⟩ (.slice a' l.length c')) := hWZ
  clear S0 KL ho b1 s1 p1 hV1 s2 an hWZ
  go_upto_region 2 with fail
  rw [← unhide HV]
  clear HV c1 f3
  go_wp2_with fail
  rw [← unhide HZ]
  exact bodyPost_ret (v := .agg #[.int .i64 G, .slice a' l.length c']) (by simp [results, Tryz.results168, go_sem, z0, z1]) rfl ⟨_, xs', rfl, (unhide HO).1, (unhide HO).2⟩
end Go.Proofs.YtnfhbmlmemifjaaGreatDoor

/- fresh.List of Logs: a list of copies, in memory of its own. -/
namespace Go.Proofs.YtnfhbmlmemifjaaGreatDoor
open Go.RowKit Go.Maps
set_option maxRecDepth 100000 in
set_option maxHeartbeats 8000000 in
theorem listLog_any {w : World} {v : Value} {l : List Lg} {xs : List (Value × List (Cv × List Value))} (h : RdL kLg w v l xs) (hl : l.length ≤ 1073741824) :
    Calls Tryz.prog 167 #[v, .func (.func 168) #[] #[]] w fun e w' => ∃ v' xs', e = .returned v' ∧ OwL kLg w.heap.size w' v' l xs' ∧ Below w.heap.size w w' := by
  obtain ⟨ad, cap, rfl, hsrc⟩ := h.form
  have KC := hide (cloneLog_any (w := w) (a := ad) (cap := cap) (cs := cellK kLg l xs) (cellK_len h.xl) (cellK_one h.xl h.el) hl (hsrc.imp (fun c => by rw [c]; rfl) (fun c => c)))
  have HC : Hid (∀ (w1 wr : World) (v : Value) (g : Nat) (xs : List (Value × List (Cv × List Value))) (i : Nat), CpL kLg w.heap.size w w1 wr v g l xs i → i < l.length → ∃ (a : Lg) (g0 : Int) (a1 : Option Addr) (LA : Nat) (k1 : Nat), l[i]? = some a ∧ (∀ W, Below wr.heap.size wr W → (W.cell? ⟨g, i * 2, none⟩ = some (.int .i64 g0) ∧ W.cell? ⟨g, i * 2 + 1, none⟩ = some (.slice a1 LA k1))) ∧
      ∀ W, Below w.heap.size w W → Calls Tryz.prog 168 #[.agg #[.int .i64 g0, .slice a1 LA k1]] W fun x w' => ∃ a1' k1' x', x = .returned (.agg #[.int .i64 g0, .slice a1' LA k1']) ∧ Hid (kLg.O W.heap.size w' a x' ∧ kLg.C a x' = [.int .i64 g0, .slice a1' LA k1']) ∧ Below W.heap.size W w') := by
    intro w1 wr v g xs i hcp hi
    obtain ⟨a, x, ha, hx, hR, hc⟩ := hcp.at hi
    obtain ⟨a1, k1, e1⟩ := hR.1.slice
    have KF := fun W hW => frLog_any (w := W) (p := a) (hR.1.bw hW) hR.2
    obtain ⟨cv, xs0⟩ := x
    simp only at e1
    subst e1
    refine ⟨a, a.1, a1, a.2.length, k1, ha, fun W hW => ?_, fun W hW => ?_⟩
    · have e := fun j u hu => by have := hc j u hu; rw [← (hW.cell (lt_of_cell this))] at this; exact this
      exact ⟨e 0 _ rfl, e 1 _ rfl⟩
    · have hR' := hR
      refine (KF W hW).mono ?_
      rintro y w' ⟨v', xs', rfl, ho, hb⟩
      obtain ⟨a1', k1', e1⟩ := own_slice ho.row
      subst e1
      exact ⟨a1', k1', (_, xs'), rfl, ⟨ho, rfl⟩, hb⟩
  have HR := hide h
  obtain ⟨N, hN⟩ : ∃ N, N = l.length := ⟨_, rfl⟩
  rw [← hN] at KC HC hl ⊢
  have hNI : (N : Int) ≤ 1073741824 := by omega
  have HN := hide hN
  clear h hsrc hl hN
  rcases Nat.eq_zero_or_pos N with h0 | h0
  · subst h0
    go_enter Tryz.func167, Tryz.ntmps167
    go_wp2_with fail
    refine (unhide KC).mono ?_
    rintro e w1 ⟨v1, rfl, ho, b1⟩
    obtain ⟨a1, c1, rfl⟩ := own_slice ho
    have HO := hide (And.intro ho b1)
    clear ho b1 KC HC
    go_wp2_with fail
    go_loopw [12] (fun iv wr => iv = .int .i64 0 ∧ wr = w1) (fun _ _ => 0)
    case atStart => exact ⟨rfl, rfl⟩
    case round =>
      obtain ⟨rfl, rfl⟩ := hrel
      go_wp2_with fail
      go_ret
      have hl0 : l = [] := List.eq_nil_of_length_eq_zero (unhide HN).symm
      have hx0 : xs = [] := List.eq_nil_of_length_eq_zero (by rw [(unhide HR).xl, hl0]; rfl)
      subst hl0 hx0
      exact ⟨_, [], rfl, ⟨rfl, (unhide HO).1, by simp, by simp, by simp⟩, (unhide HO).2⟩
  · go_enter Tryz.func167, Tryz.ntmps167
    go_wp2_with fail
    refine (unhide KC).mono ?_
    rintro e w1 ⟨v1, rfl, ho, b1⟩
    obtain ⟨g, c1, rfl, hg, _, _⟩ := own_open ho h0
    have S0 : Hid (CpL kLg w.heap.size w w1 w1 (.slice (some ⟨g, 0, none⟩) N c1) g l xs 0) := CpL.start (unhide HR) (by rw [← unhide HN]; exact ho) rfl
    have HB := hide (And.intro b1 hg)
    clear ho b1 KC hg
    go_wp2_with fail
    go_loopw [12] (fun iv wr => ∃ (i : Nat) (xs' : List (Value × List (Cv × List Value))), iv = .int .i64 (i : Int) ∧ i ≤ N ∧ Hid (CpL kLg w.heap.size w w1 wr (.slice (some ⟨g, 0, none⟩) N c1) g l xs' i)) (fun iv _ => (N - intOf iv).toNat)
    case atStart => exact ⟨0, xs, rfl, Nat.zero_le _, S0⟩
    case round =>
      clear S0
      obtain ⟨i, xs', rfl, hi, HS⟩ := hrel
      by_cases hlt : i < N
      · obtain ⟨a, g0, a1, LA, k1, ha, hcl, KF⟩ := unhide HC w1 wr _ g xs' i (unhide HS) hlt
        obtain ⟨c0_, c1_⟩ := hcl wr (Below.refl _ _)
        obtain ⟨W1, hW1⟩ : ∃ W, W = wr.alloc (.cells #[.int .i64 g0, .slice a1 LA k1] 95) := ⟨_, rfl⟩
        have hz : W1.heap[wr.heap.size]? = some (.cells #[.int .i64 g0, .slice a1 LA k1] 95 (0, 0)) := by
          rw [hW1]; exact heap_alloc_new _ _
        have bz : Below wr.heap.size wr W1 := by rw [hW1]; exact bwA _ _
        have bw1 : Below w.heap.size w W1 := bw_tr (Fr.toBase (unhide HB).1 (unhide HS).fr (by intro x hx; rw [List.mem_singleton] at hx; subst hx; exact (World.ownsRow.lt (unhide HS).row x (unhide HS).own).1)) bz
        have q1 : (i : Int) < (N : Int) := by omega
        have q0 : (0 : Int) ≤ (i : Int) := by omega
        have z0_ : W1.cell? ⟨wr.heap.size, 0, none⟩ = some (.int .i64 g0) := blk_c hz rfl
        have z1_ : W1.cell? ⟨wr.heap.size, 1, none⟩ = some (.slice a1 LA k1) := blk_c hz rfl
        have HW : Hid (W1 = wr.alloc (.cells #[.int .i64 g0, .slice a1 LA k1] 95)) := hW1
        have KF1 := hide (KF W1 bw1)
        have HX0 := hide (And.intro ha (And.intro bz (fun W hW => hcl W hW)))
        clear hW1 hz bz bw1 KF ha hcl
        go_upto_region 5 with fail
        rw [← unhide HW]
        clear HW c0_ c1_
        go_wp2_with fail
        refine (unhide KF1).mono ?_
        rintro x w2 ⟨a1', k1', x', rfl, hO, b2⟩
        obtain ⟨d0_, d1_⟩ := (unhide HX0).2.2 w2 (bw_tr (unhide HX0).2.1 b2)
        have hS2 := (unhide HS).bw (bw_tr (unhide HX0).2.1 b2)
        have fz := fun j => own_frozen hS2.row (g := g) rfl j
        have HX : Hid (CpL kLg w.heap.size w w1 (((w2).setCell ⟨g, i * 2, none⟩ (.int .i64 g0)).setCell ⟨g, i * 2 + 1, none⟩ (.slice a1' LA k1')) (.slice (some ⟨g, 0, none⟩) N c1) g l (xs'.set i x') (i + 1)) := by
          have := ((unhide HS).bw (unhide HX0).2.1).step (unhide HX0).1 b2 (unhide hO).1 (unhide HB).2
          rw [(unhide hO).2] at this
          exact this
        clear hS2 HX0 hO b2 KF1 z0_ z1_
        go_wp2_with fail
        go_roundw
        case rel => exact ⟨i + 1, _, by go_num, by omega, HX⟩
        case measure => simp [intOf]; omega
      · obtain rfl : i = N := by omega
        have HO : Hid (OwL kLg w.heap.size wr (.slice (some ⟨g, 0, none⟩) i c1) l xs' ∧ Below w.heap.size w wr) := by
          have hS := unhide HS
          refine ⟨?_, Fr.toBase (unhide HB).1 hS.fr (by intro x hx; rw [List.mem_singleton] at hx; subst hx; exact (World.ownsRow.lt hS.row x hS.own).1)⟩
          have e := unhide HN
          have hS' : CpL kLg w.heap.size w w1 wr (.slice (some ⟨g, 0, none⟩) i c1) g l xs' l.length := by rw [← e]; exact hS
          exact hS'.done (unhide HB).1.size (unhide HB).2
        clear HS HC
        go_wp2_with fail
        go_ret
        exact ⟨_, xs', rfl, (unhide HO).1, (unhide HO).2⟩
end Go.Proofs.YtnfhbmlmemifjaaGreatDoor
