/- Closed facts of the program that every law's row of layer 7 asks; pairs that came in: what their reading says of memory; Beyond. -/
import Derived.Test.YtfnpeiikjiffeaaGreatRows
import Derived.Test.YtfnpeiikjiffeaaGreatStMem
import Derived.Test.YtfnpeiikjiffeaaGreatDkFrame
import Derived.ProofKit
import Derived.OpenShut
import Derived.ShutString
import Derived.ChangeOld
import Derived.Lib.SmallJoins
import Derived.Deep.Slices
import Derived.Deep.Strs
import Derived.SizedLaws
namespace Go.Proofs.YtfnpeiikjiffeaaGreat
open Go.ChangeShapes Go.WideShapes Go.ChangeAt Go.RowKit Go.Joins Go.Deep

theorem bytesPr3 : Tryz.prog.bytesOf 48 = 40 := by kernel_rfl
theorem cellsPr3 : Tryz.prog.cellsOf 48 = 3 := by kernel_rfl
theorem trod_struct3b {H : Type} {enc : TypeId × Value → H} {P : Program} {w : World} {base : Nat} {spare : Nat → Bool} {held : Bool} {t : TypeId} {f0 f1 f2 : Field} {fuel : Nat} {cs : List Value} {x : DataW H × List MemPlace} (ht : P.underlying t = some (.struct #[f0, f1, f2])) (h : DataW.trod enc P w base spare held fuel t cs = some x) :
    ∃ y0 y1 y2 n, x = (.agg [y0.1, y1.1, y2.1], y0.2 ++ (y1.2 ++ y2.2)) ∧ cs.length = P.cellsOf t ∧ DataW.trod enc P w base spare held n f0.type ((cs.drop f0.offset).take (P.cellsOf f0.type)) = some y0 ∧
      DataW.trod enc P w base spare held n f1.type ((cs.drop f1.offset).take (P.cellsOf f1.type)) = some y1 ∧ DataW.trod enc P w base spare held n f2.type ((cs.drop f2.offset).take (P.cellsOf f2.type)) = some y2 := by
  obtain ⟨xs, n, _, rfl, hl, hlen, hf⟩ := DataW.trod_struct ht h
  match xs, hlen with
  | [y0, y1, y2], _ => exact ⟨y0, y1, y2, n, by simp, hl, by simpa using hf 0 f0 rfl, by simpa using hf 1 f1 rfl, by simpa using hf 2 f2 rfl⟩
set_option maxRecDepth 100000 in
theorem open_pairs {H : Type} {enc : TypeId × Value → H} {W : World} {spare : Nat → Bool} {held : Bool} {a : Option Addr} {len cap : Nat} {d : DataW H} {p : List MemPlace}
    (h : DataW.Trod enc Tryz.prog W 0 spare held 22 (.slice a len cap) d p) (hsz : ∀ n ∈ d.weights Tryz.prog 22, n ≤ reachBytes) : ∃ l, l.length = len ∧ PrsAt W a l := by
  obtain ⟨fuel, hf⟩ := h
  rcases open_slice Tryz.underlying22 hf with ⟨hcs, _⟩ | ⟨x, l, c, m, n, D, Pl, hcs, _, hl, hm, hmm, hx, hel⟩
  · simp [Value.cells] at hcs
    obtain ⟨rfl, rfl, rfl⟩ := hcs
    exact ⟨[], rfl, by simp, by simp, Or.inl rfl⟩
  · simp [Value.cells] at hcs
    obtain ⟨rfl, rfl, rfl⟩ := hcs
    simp only [Prod.mk.injEq] at hx
    obtain ⟨hd, _⟩ := hx
    have hlm : len ≤ m := by rw [hmm]; split <;> omega
    have each : ∀ i, i < len → ∃ y : PP, (y.n.size ≤ 140737488355328 ∧ y.t.size ≤ 140737488355328) ∧ W.cell? (x.add (i * 3)) = some (.string y.n) ∧ W.cell? (x.add (i * 3 + 1)) = some (.string y.t) ∧ W.cell? (x.add (i * 3 + 2)) = some (.bool y.g) := by
      intro i hi
      obtain ⟨cs, h1, h2⟩ := hel i (by omega)
      rw [cellsPr3] at h1
      obtain ⟨_, hlen, hcell⟩ := World.cells?_some h1
      obtain ⟨y0, y1, y2, n', hxy, _, g0, g1, g2⟩ := trod_struct3b Tryz.underlying48 h2
      match cs, hlen with
      | [v0, v1, v2], _ =>
        have i1 : Tryz.prog.cellsOf 9 = 1 := by kernel_rfl
        have i2 : Tryz.prog.cellsOf 4 = 1 := by kernel_rfl
        simp [i1, i2] at g0 g1 g2
        obtain ⟨q0, e0, z0, _⟩ := DataW.trod_string Tryz.underlying9 g0
        obtain ⟨q1, e1, z1, _⟩ := DataW.trod_string Tryz.underlying9 g1
        obtain ⟨q2, e2, z2⟩ := DataW.trod_bool Tryz.underlying4 g2
        simp at e0 e1 e2
        subst e0 e1 e2
        have c0 := hcell 0 (by omega)
        have c1 := hcell 1 (by omega)
        have c2 := hcell 2 (by omega)
        rw [add_add] at c0 c1 c2
        simp only [Prod.mk.injEq] at hxy
        have hw : q0.size ≤ reachBytes ∧ q1.size ≤ reachBytes := by
          constructor <;>
          · refine hsz _ ?_
            rw [hd]
            simp only [DataW.weights, Tryz.underlying22]
            refine List.mem_cons_of_mem _ (List.mem_append_left _ (mem_weightsAll (d := D i) (List.mem_map.2 ⟨i, List.mem_range.2 hi, rfl⟩) ?_))
            rw [hxy.1, z0, z1, z2]
            simp [DataW.weights, DataW.weightsEach, Tryz.underlying48]
        have hr := reachBytes_lt
        exact ⟨⟨q0, q1, q2⟩, ⟨by simp at hr ⊢; omega, by simp at hr ⊢; omega⟩, by simpa using c0, by simpa using c1, by simpa using c2⟩
    have hlen : len ≤ 140737488355328 := by
      have := hsz ((len + (m - len)) * 40) (by
        rw [hd]; simp [DataW.weights, Tryz.underlying22, bytesPr3])
      have hr := reachBytes_lt
      simp at hr; omega
    obtain ⟨f, hfx⟩ := @choose_lt PP ⟨⟨⟨#[]⟩, ⟨#[]⟩, false⟩⟩ len _ each
    refine ⟨(List.range len).map f, by simp, by simpa using hlen, ?_, ?_⟩
    · intro y hy
      obtain ⟨i, hi, rfl⟩ := List.mem_map.1 hy
      exact (hfx i (List.mem_range.1 hi)).1
    · rcases Nat.eq_zero_or_pos len with h0 | h0
      · subst h0; exact Or.inl rfl
      · obtain ⟨b, off, spot⟩ := x
        have k0 := (hfx 0 h0).2.1
        have hspot : spot = none := by simpa [Addr.add] using World.cell?_spot k0
        subst hspot
        refine Or.inr ⟨b, off, rfl, World.block_lt_of_cell? W _ (by simpa [Addr.add] using k0), fun i y hy => ?_⟩
        have hi : i < len := by
          rcases Nat.lt_or_ge i len with q | q
          · exact q
          · simp [q] at hy
        simp [hi] at hy
        subst hy
        obtain ⟨_, k0, k1, k2⟩ := hfx i hi
        have ea : ∀ j, (⟨b, off, none⟩ : Addr).add j = ⟨b, off + j, none⟩ := fun j => by
          unfold Addr.add; by_cases hj : j = 0 <;> simp [hj]
        rw [ea] at k0 k1 k2
        exact ⟨k0, by rw [Nat.add_assoc]; exact k1, by rw [Nat.add_assoc]; exact k2⟩
theorem open_pairsN {H : Type} {enc : TypeId × Value → H} {W : World} {spare : Nat → Bool} {held : Bool} {a : Option Addr} {len cap : Nat} {d : DataW H} {p : List MemPlace}
    (h : DataW.Trod enc Tryz.prog W 0 spare held 22 (.slice a len cap) d p) (hsz : ∀ n ∈ d.weights Tryz.prog 22, n ≤ reachBytes) : ∃ l, l.length = len ∧ PrsAt W a l ∧ (a = none → cap = 0) := by
  obtain ⟨l, h1, h2⟩ := open_pairs h hsz
  refine ⟨l, h1, h2, fun ha => ?_⟩
  obtain ⟨fuel, hf⟩ := h
  rcases open_slice Tryz.underlying22 hf with ⟨hcs, _⟩ | ⟨x, l, c, m, n, D, Pl, hcs, _, hl, hm, hmm, hx, hel⟩
  · simp [Value.cells] at hcs; exact hcs.2.2
  · simp [Value.cells] at hcs; rw [ha] at hcs; cases hcs.1

set_option maxHeartbeats 400000 in
theorem beyond7_one (b : Nat) (n : Nat) (c : Nat) (w : World) (hn : n ≤ 1125899906842624) (h0 : w.cell? ⟨b, 0, none⟩ = some (.int .i64 n)) :
    Calls Tryz.prog 5 #[.slice (some ⟨b, 0, none⟩) 1 c] w fun e w' => e = .returned (.bool (decide (262144 < n))) ∧ w' = w := by
  by_cases hb : 262144 < n
  · rw [decide_eq_true hb]
    go_enter Tryz.func5, Tryz.ntmps5
    go_wp2
    refine wp_loop_rounds 1 ?_
    rw [rounds_succ]
    go_wp2
    go_ret
    exact ⟨rfl, rfl⟩
  · rw [decide_eq_false hb]
    go_enter Tryz.func5, Tryz.ntmps5
    go_wp2
    refine wp_loop_rounds 2 ?_
    rw [rounds_succ]
    go_wp2
    rw [rounds_succ]
    go_wp2
    go_ret
    exact ⟨rfl, rfl⟩

set_option maxHeartbeats 800000 in
theorem beyond7_two (b : Nat) (n m : Nat) (c : Nat) (w : World) (hn : n ≤ 1125899906842624) (hm : m ≤ 1125899906842624) (h0 : w.cell? ⟨b, 0, none⟩ = some (.int .i64 n)) (h1 : w.cell? ⟨b, 1, none⟩ = some (.int .i64 m)) :
    Calls Tryz.prog 5 #[.slice (some ⟨b, 0, none⟩) 2 c] w fun e w' => e = .returned (.bool (decide (262144 < n + m))) ∧ w' = w := by
  by_cases hb : 262144 < n
  · rw [decide_eq_true (by omega)]
    go_enter Tryz.func5, Tryz.ntmps5
    go_wp2
    refine wp_loop_rounds 1 ?_
    rw [rounds_succ]
    go_wp2
    go_ret
    exact ⟨rfl, rfl⟩
  · by_cases hb2 : 262144 < m
    · rw [decide_eq_true (by omega)]
      go_enter Tryz.func5, Tryz.ntmps5
      go_wp2
      refine wp_loop_rounds 2 ?_
      rw [rounds_succ]
      go_wp2
      rw [rounds_succ]
      go_wp2
      go_ret
      exact ⟨rfl, rfl⟩
    · by_cases hb3 : (262144 : Int) < (n : Int) + (m : Int)
      · rw [decide_eq_true (by omega)]
        go_enter Tryz.func5, Tryz.ntmps5
        go_wp2
        refine wp_loop_rounds 2 ?_
        rw [rounds_succ]
        go_wp2
        rw [rounds_succ]
        go_wp2
        go_ret
        exact ⟨rfl, rfl⟩
      · rw [decide_eq_false (by omega)]
        go_enter Tryz.func5, Tryz.ntmps5
        go_wp2
        refine wp_loop_rounds 3 ?_
        rw [rounds_succ]
        go_wp2
        rw [rounds_succ]
        go_wp2
        rw [rounds_succ]
        go_wp2
        go_ret
        exact ⟨rfl, rfl⟩


end Go.Proofs.YtfnpeiikjiffeaaGreat
