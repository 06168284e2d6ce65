/- Contracts of untold and Dag of package term. -/
import Derived.Test.YtfpimmbjjcpobaaGreatDoorTmB
namespace Go.Proofs.YtfpimmbjjcpobaaGreatDoor
open Go.RowKit Go.Maps

theorem PMap.look {w : World} {b : Nat} {o : List Nat} (h : PMap w b o) {k : Nat} (hk : k ≤ 1048576) : (Instr.lookup 86 (.map (some b)) (.int .i64 (k : Int)) false).run Tryz.prog w = .ok (.int .i64 (pos o k : Nat)) w := by
  obtain ⟨D, hD, hv⟩ := h
  obtain ⟨c, hr, hc, _⟩ := hD.lookup_int lawInt Tryz.underlying86 Tryz.underlying3 (zeroInt w) (keyOf_int_mk Tryz.underlying3 (wf_i64 (x := (k : Int)) (by omega) (by omega)))
  rw [hv k hk] at hc
  simp only [DataW.lit.injEq, Lit.int.injEq, true_and] at hc
  rw [hc]
  exact hr
theorem PMap.store {w : World} {b : Nat} {o : List Nat} (h : PMap w b o) {m : Nat} (hm : m ∉ o) (hk : m ≤ 1048576) (hl : o.length ≤ 1048576) : ∃ w', (Instr.mapUpdate 86 (.map (some b)) (.int .i64 (m : Int)) (.int .i64 ((o.length : Int) + 1))).run Tryz.prog w = .ok () w' ∧ PMap w' b (o ++ [m]) ∧ w.grownBy w' (some b) := by
  obtain ⟨D, hD, hv⟩ := h
  obtain ⟨w', hr, h1, h2⟩ := hD.update lawInt Tryz.underlying86 (by unfold maxLen; omega) (keyOf_int_mk Tryz.underlying3 (wf_i64 (x := (m : Int)) (by omega) (by omega))) (plainElem_int (a := ((o.length + 1 : Nat) : Int)) Tryz.underlying3 (wf_i64 (by omega) (by omega)))
  refine ⟨w', ?_, PMap.put hD hv hm h1, h2⟩
  have e : ((o.length + 1 : Nat) : Int) = (o.length : Int) + 1 := by omega
  rw [e] at hr
  exact hr

/-- The first part of a term that has no place yet, or 0. -/
def unt (o : List Nat) (a b : Nat) : Nat := if a ≠ 0 ∧ a ∉ o then a else if b ≠ 0 ∧ b ∉ o then b else 0
theorem pos_zero {o : List Nat} {k : Nat} : pos o k = 0 ↔ k ∉ o := by
  unfold pos; split <;> simp_all

theorem ret_i {k : IntKind} {a b : Int} (h : a = b) : Ending.returned (.int k a) = .returned (.int k b) := by rw [h]

theorem index_two (w : World) (x y : Value) : (Instr.index 97 (.agg #[x, y]) (.int .i64 0)).run Tryz.prog w = .ok x w ∧ (Instr.index 97 (.agg #[x, y]) (.int .i64 1)).run Tryz.prog w = .ok y w := by
  have hs : (Go.sizeOf 3).run Tryz.prog w = .ok 1 w := by kernel_rfl
  have hp : Tryz.prog.plainKey 3 = true := by kernel_rfl
  have hu := Tryz.underlying97
  generalize Tryz.prog = P at *
  have p0 := run_part_plain (w := w) hp (xs := #[x, y]) (off := 0) (v := x) rfl
  have p1 := run_part_plain (w := w) hp (xs := #[x, y]) (off := 1) (v := y) rfl
  constructor
  · simp [Instr.index, run_underlying hu, asIntOf, hs, p0, Result.andThen]
  · simp [Instr.index, run_underlying hu, asIntOf, hs, p1, Result.andThen]

set_option maxRecDepth 100000 in
set_option maxHeartbeats 2000000 in
theorem untold_core (k n x y px py : Int) (mb : Nat) (w : World) (HA : (Instr.lookup 86 (.map (some mb)) (.int .i64 x) false).run Tryz.prog (w.alloc (.cells #[.int .u8 k, .int .i64 n, .int .i64 x, .int .i64 y] 69)) = .ok (.int .i64 px) (w.alloc (.cells #[.int .u8 k, .int .i64 n, .int .i64 x, .int .i64 y] 69)))
    (HB : (Instr.lookup 86 (.map (some mb)) (.int .i64 y) false).run Tryz.prog (w.alloc (.cells #[.int .u8 k, .int .i64 n, .int .i64 x, .int .i64 y] 69)) = .ok (.int .i64 py) (w.alloc (.cells #[.int .u8 k, .int .i64 n, .int .i64 x, .int .i64 y] 69))) :
    Calls Tryz.prog 21 #[.agg #[.int .u8 k, .int .i64 n, .int .i64 x, .int .i64 y], .map (some mb)] w fun e w' => e = .returned (.int .i64 (if x ≠ 0 ∧ px = 0 then x else if y ≠ 0 ∧ py = 0 then y else 0)) ∧ Below w.heap.size w w' := by
  have I0 := fun w x y => (index_two w x y).1
  have I1 := fun w x y => (index_two w x y).2
  by_cases hx : x = 0
  · subst hx
    simp only [ne_eq, not_true_eq_false, false_and, if_false]
    clear HA
    by_cases hy : y = 0
    · subst hy
      simp only [not_true_eq_false, false_and, if_false]
      clear HB
      go_enter Tryz.func21, Tryz.ntmps21
      go_wp2
      refine wp_loop_rounds 3 ?_
      rw [rounds_succ]
      go_wp2
      rw [rounds_succ]
      go_wp2
      rw [rounds_succ]
      go_wp2
      go_ret
      exact ⟨rfl, (Below.refl _ _).alloc (Nat.le_refl _) _⟩
    · have z1 : (y == 0) = false := by simpa using hy
      by_cases hq : py = 0
      · subst hq
        simp only [hy, not_false_eq_true, and_self, if_true]
        go_enter Tryz.func21, Tryz.ntmps21
        go_wp2
        refine wp_loop_rounds 2 ?_
        rw [rounds_succ]
        go_wp2
        rw [rounds_succ]
        go_wp2
        go_ret
        exact ⟨rfl, (Below.refl _ _).alloc (Nat.le_refl _) _⟩
      · have z2 : (py == 0) = false := by simpa using hq
        simp only [hy, hq, not_false_eq_true, and_false, if_false]
        go_enter Tryz.func21, Tryz.ntmps21
        go_wp2
        refine wp_loop_rounds 3 ?_
        rw [rounds_succ]
        go_wp2
        rw [rounds_succ]
        go_wp2
        rw [rounds_succ]
        go_wp2
        go_ret
        exact ⟨rfl, (Below.refl _ _).alloc (Nat.le_refl _) _⟩
  · have u1 : (x == 0) = false := by simpa using hx
    by_cases hp : px = 0
    · subst hp
      simp only [ne_eq, hx, not_false_eq_true, and_self, if_true]
      clear HB
      go_enter Tryz.func21, Tryz.ntmps21
      go_wp2
      refine wp_loop_rounds 1 ?_
      rw [rounds_succ]
      go_wp2
      go_ret
      exact ⟨rfl, (Below.refl _ _).alloc (Nat.le_refl _) _⟩
    · have u2 : (px == 0) = false := by simpa using hp
      simp only [ne_eq, hx, hp, not_false_eq_true, and_false, if_false]
      by_cases hy : y = 0
      · subst hy
        simp only [not_true_eq_false, false_and, if_false]
        clear HB
        go_enter Tryz.func21, Tryz.ntmps21
        go_wp2
        refine wp_loop_rounds 3 ?_
        rw [rounds_succ]
        go_wp2
        rw [rounds_succ]
        go_wp2
        rw [rounds_succ]
        go_wp2
        go_ret
        exact ⟨rfl, (Below.refl _ _).alloc (Nat.le_refl _) _⟩
      · have z1 : (y == 0) = false := by simpa using hy
        by_cases hq : py = 0
        · subst hq
          simp only [hy, not_false_eq_true, and_self, if_true]
          go_enter Tryz.func21, Tryz.ntmps21
          go_wp2
          refine wp_loop_rounds 2 ?_
          rw [rounds_succ]
          go_wp2
          rw [rounds_succ]
          go_wp2
          go_ret
          exact ⟨rfl, (Below.refl _ _).alloc (Nat.le_refl _) _⟩
        · have z2 : (py == 0) = false := by simpa using hq
          simp only [hy, hq, not_false_eq_true, and_false, if_false]
          go_enter Tryz.func21, Tryz.ntmps21
          go_wp2
          refine wp_loop_rounds 3 ?_
          rw [rounds_succ]
          go_wp2
          rw [rounds_succ]
          go_wp2
          rw [rounds_succ]
          go_wp2
          go_ret
          exact ⟨rfl, (Below.refl _ _).alloc (Nat.le_refl _) _⟩
theorem untold_any (k n : Int) (a b mb : Nat) (o : List Nat) (w : World) (h : PMap w mb o) (ha : a ≤ 1048576) (hb : b ≤ 1048576) :
    Calls Tryz.prog 21 #[.agg #[.int .u8 k, .int .i64 n, .int .i64 (a : Int), .int .i64 (b : Int)], .map (some mb)] w fun e w' => e = .returned (.int .i64 (unt o a b : Nat)) ∧ Below w.heap.size w w' := by
  have h0 : PMap (w.alloc (.cells #[.int .u8 k, .int .i64 n, .int .i64 (a : Int), .int .i64 (b : Int)] 69)) mb o := h.bw ((Below.refl _ _).alloc (Nat.le_refl _) _)
  refine (untold_core k n a b (pos o a : Nat) (pos o b : Nat) mb w (h0.look ha) (h0.look hb)).mono ?_
  rintro e w' ⟨rfl, hB⟩
  refine ⟨ret_i ?_, hB⟩
  have p1 : ((pos o a : Nat) : Int) = 0 ↔ a ∉ o := by rw [← pos_zero]; omega
  have p2 : ((pos o b : Nat) : Int) = 0 ↔ b ∉ o := by rw [← pos_zero]; omega
  have q1 : (a : Int) ≠ 0 ↔ a ≠ 0 := by omega
  have q2 : (b : Int) ≠ 0 ↔ b ≠ 0 := by omega
  simp only [p1, p2, q1, q2, unt]
  split
  · rfl
  · split <;> rfl

end Go.Proofs.YtfpimmbjjcpobaaGreatDoor
