/- fresh.List of Logs: a list of copies, in memory of its own. -/
import Derived.Test.YthlbdajnkdkocaaDoorZ14
namespace Go.Proofs.YthlbdajnkdkocaaDoor
open Go.RowKit Go.Maps
set_option maxRecDepth 100000 in
set_option maxHeartbeats 8000000 in
theorem listLog_any {w : World} {v : Value} {l : List Lg} {xs : List (Value × List (Cv × List Value))} (h : RdL kLg w v l xs) (hl : l.length ≤ 1073741824) :
    Calls Tryd.prog 23 #[v, .func (.func 24) #[] #[]] w fun e w' => ∃ v' xs', e = .returned v' ∧ OwL kLg w.heap.size w' v' l xs' ∧ Below w.heap.size w w' := by
  obtain ⟨ad, cap, rfl, hsrc⟩ := h.form
  have KC := hide (cloneLog_any (w := w) (a := ad) (cap := cap) (cs := cellK kLg l xs) (cellK_len h.xl) (cellK_one h.xl h.el) hl (hsrc.imp (fun c => by rw [c]; rfl) (fun c => c)))
  have HC : Hid (∀ (w1 wr : World) (v : Value) (g : Nat) (xs : List (Value × List (Cv × List Value))) (i : Nat), CpL kLg w.heap.size w w1 wr v g l xs i → i < l.length → ∃ (a : Lg) (g0 : Int) (a1 : Option Addr) (LA : Nat) (k1 : Nat), l[i]? = some a ∧ (∀ W, Below wr.heap.size wr W → (W.cell? ⟨g, i * 2, none⟩ = some (.int .i64 g0) ∧ W.cell? ⟨g, i * 2 + 1, none⟩ = some (.slice a1 LA k1))) ∧
      ∀ W, Below w.heap.size w W → Calls Tryd.prog 24 #[.agg #[.int .i64 g0, .slice a1 LA k1]] W fun x w' => ∃ a1' k1' x', x = .returned (.agg #[.int .i64 g0, .slice a1' LA k1']) ∧ Hid (kLg.O W.heap.size w' a x' ∧ kLg.C a x' = [.int .i64 g0, .slice a1' LA k1']) ∧ Below W.heap.size W w') := by
    intro w1 wr v g xs i hcp hi
    obtain ⟨a, x, ha, hx, hR, hc⟩ := hcp.at hi
    obtain ⟨a1, k1, e1⟩ := hR.1.slice
    have KF := fun W hW => frLog_any (w := W) (p := a) (hR.1.bw hW) hR.2
    obtain ⟨cv, xs0⟩ := x
    simp only at e1
    subst e1
    refine ⟨a, a.1, a1, a.2.length, k1, ha, fun W hW => ?_, fun W hW => ?_⟩
    · have e := fun j u hu => by have := hc j u hu; rw [← (hW.cell (lt_of_cell this))] at this; exact this
      exact ⟨e 0 _ rfl, e 1 _ rfl⟩
    · have hR' := hR
      refine (KF W hW).mono ?_
      rintro y w' ⟨v', xs', rfl, ho, hb⟩
      obtain ⟨a1', k1', e1⟩ := own_slice ho.row
      subst e1
      exact ⟨a1', k1', (_, xs'), rfl, ⟨ho, rfl⟩, hb⟩
  have HR := hide h
  obtain ⟨N, hN⟩ : ∃ N, N = l.length := ⟨_, rfl⟩
  rw [← hN] at KC HC hl ⊢
  have hNI : (N : Int) ≤ 1073741824 := by omega
  have HN := hide hN
  clear h hsrc hl hN
  rcases Nat.eq_zero_or_pos N with h0 | h0
  · subst h0
    go_enter Tryd.func23, Tryd.ntmps23
    go_wp2_with fail
    refine (unhide KC).mono ?_
    rintro e w1 ⟨v1, rfl, ho, b1⟩
    obtain ⟨a1, c1, rfl⟩ := own_slice ho
    have HO := hide (And.intro ho b1)
    clear ho b1 KC HC
    go_wp2_with fail
    go_loopw [12] (fun iv wr => iv = .int .i64 0 ∧ wr = w1) (fun _ _ => 0)
    case atStart => exact ⟨rfl, rfl⟩
    case round =>
      obtain ⟨rfl, rfl⟩ := hrel
      go_wp2_with fail
      go_ret
      have hl0 : l = [] := List.eq_nil_of_length_eq_zero (unhide HN).symm
      have hx0 : xs = [] := List.eq_nil_of_length_eq_zero (by rw [(unhide HR).xl, hl0]; rfl)
      subst hl0 hx0
      exact ⟨_, [], rfl, ⟨rfl, (unhide HO).1, by simp, by simp, by simp⟩, (unhide HO).2⟩
  · go_enter Tryd.func23, Tryd.ntmps23
    go_wp2_with fail
    refine (unhide KC).mono ?_
    rintro e w1 ⟨v1, rfl, ho, b1⟩
    obtain ⟨g, c1, rfl, hg, _, _⟩ := own_open ho h0
    have S0 : Hid (CpL kLg w.heap.size w w1 w1 (.slice (some ⟨g, 0, none⟩) N c1) g l xs 0) := CpL.start (unhide HR) (by rw [← unhide HN]; exact ho) rfl
    have HB := hide (And.intro b1 hg)
    clear ho b1 KC hg
    go_wp2_with fail
    go_loopw [12] (fun iv wr => ∃ (i : Nat) (xs' : List (Value × List (Cv × List Value))), iv = .int .i64 (i : Int) ∧ i ≤ N ∧ Hid (CpL kLg w.heap.size w w1 wr (.slice (some ⟨g, 0, none⟩) N c1) g l xs' i)) (fun iv _ => (N - intOf iv).toNat)
    case atStart => exact ⟨0, xs, rfl, Nat.zero_le _, S0⟩
    case round =>
      clear S0
      obtain ⟨i, xs', rfl, hi, HS⟩ := hrel
      by_cases hlt : i < N
      · obtain ⟨a, g0, a1, LA, k1, ha, hcl, KF⟩ := unhide HC w1 wr _ g xs' i (unhide HS) hlt
        obtain ⟨c0_, c1_⟩ := hcl wr (Below.refl _ _)
        obtain ⟨W1, hW1⟩ : ∃ W, W = wr.alloc (.cells #[.int .i64 g0, .slice a1 LA k1] 46) := ⟨_, rfl⟩
        have hz : W1.heap[wr.heap.size]? = some (.cells #[.int .i64 g0, .slice a1 LA k1] 46 (0, 0)) := by
          rw [hW1]; exact heap_alloc_new _ _
        have bz : Below wr.heap.size wr W1 := by rw [hW1]; exact bwA _ _
        have bw1 : Below w.heap.size w W1 := bw_tr (Fr.toBase (unhide HB).1 (unhide HS).fr (by intro x hx; rw [List.mem_singleton] at hx; subst hx; exact (World.ownsRow.lt (unhide HS).row x (unhide HS).own).1)) bz
        have q1 : (i : Int) < (N : Int) := by omega
        have q0 : (0 : Int) ≤ (i : Int) := by omega
        have z0_ : W1.cell? ⟨wr.heap.size, 0, none⟩ = some (.int .i64 g0) := blk_c hz rfl
        have z1_ : W1.cell? ⟨wr.heap.size, 1, none⟩ = some (.slice a1 LA k1) := blk_c hz rfl
        have HW : Hid (W1 = wr.alloc (.cells #[.int .i64 g0, .slice a1 LA k1] 46)) := hW1
        have KF1 := hide (KF W1 bw1)
        have HX0 := hide (And.intro ha (And.intro bz (fun W hW => hcl W hW)))
        clear hW1 hz bz bw1 KF ha hcl
        go_upto_region 5 with fail
        rw [← unhide HW]
        clear HW c0_ c1_
        go_wp2_with fail
        refine (unhide KF1).mono ?_
        rintro x w2 ⟨a1', k1', x', rfl, hO, b2⟩
        obtain ⟨d0_, d1_⟩ := (unhide HX0).2.2 w2 (bw_tr (unhide HX0).2.1 b2)
        have hS2 := (unhide HS).bw (bw_tr (unhide HX0).2.1 b2)
        have fz := fun j => own_frozen hS2.row (g := g) rfl j
        have HX : Hid (CpL kLg w.heap.size w w1 (((w2).setCell ⟨g, i * 2, none⟩ (.int .i64 g0)).setCell ⟨g, i * 2 + 1, none⟩ (.slice a1' LA k1')) (.slice (some ⟨g, 0, none⟩) N c1) g l (xs'.set i x') (i + 1)) := by
          have := ((unhide HS).bw (unhide HX0).2.1).step (unhide HX0).1 b2 (unhide hO).1 (unhide HB).2
          rw [(unhide hO).2] at this
          exact this
        clear hS2 HX0 hO b2 KF1 z0_ z1_
        go_wp2_with fail
        go_roundw
        case rel => exact ⟨i + 1, _, by go_num, by omega, HX⟩
        case measure => simp [intOf]; omega
      · obtain rfl : i = N := by omega
        have HO : Hid (OwL kLg w.heap.size wr (.slice (some ⟨g, 0, none⟩) i c1) l xs' ∧ Below w.heap.size w wr) := by
          have hS := unhide HS
          refine ⟨?_, Fr.toBase (unhide HB).1 hS.fr (by intro x hx; rw [List.mem_singleton] at hx; subst hx; exact (World.ownsRow.lt hS.row x hS.own).1)⟩
          have e := unhide HN
          have hS' : CpL kLg w.heap.size w w1 wr (.slice (some ⟨g, 0, none⟩) i c1) g l xs' l.length := by rw [← e]; exact hS
          exact hS'.done (unhide HB).1.size (unhide HB).2
        clear HS HC
        go_wp2_with fail
        go_ret
        exact ⟨_, xs', rfl, (unhide HO).1, (unhide HO).2⟩
end Go.Proofs.YthlbdajnkdkocaaDoor
