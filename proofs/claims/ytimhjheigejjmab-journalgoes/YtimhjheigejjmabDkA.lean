/- Contracts of package disk: what only looks. -/
import Derived.Test.YtimhjheigejjmabDkMem
namespace Go.Proofs.Ytimhjheigejjmab
open Go.RowKit Go.Maps

theorem eql_fn (w : World) (fn : Fn) (fs cs : Array Value) : (binOp .eql 70 (.func fn fs cs) .nilFunc).run Try.prog w = .ok (.bool false) w := by
  kernel_rfl
theorem eql_nilfn (w : World) : (binOp .eql 70 .nilFunc .nilFunc).run Try.prog w = .ok (.bool true) w := by
  kernel_rfl
set_option maxHeartbeats 2000000 in
theorem missing_any {d : Nat} {S : DS} {Z : List Nat} {w : World} (h : DkS w d S Z) :
    Calls Try.prog 52 #[ptr d] w fun e w' => e = .returned (.bool false) ∧ w' = w := by
  obtain ⟨nb, sb, cb, fv, cv, rfl, h1⟩ := h
  obtain ⟨_, _, _, _, _, _, _, c7, _⟩ := h1.cells
  obtain ⟨fn, fs, cs, rfl⟩ := h1.come.1
  unfold ptr
  clear h1
  have hq := fun w => eql_fn w fn fs cs
  go_enter Try.func52, Try.ntmps52
  go_wp2_with fail
  go_ret
  exact ⟨rfl, rfl⟩
theorem missing_nil (w : World) : Calls Try.prog 52 #[.pointer none] w fun e w' => e = .returned (.bool true) ∧ w' = w := by
  go_enter Try.func52, Try.ntmps52
  go_wp2_with fail
  go_ret
  exact ⟨rfl, rfl⟩
theorem missing_raw (w : World) (d : Nat) (hc : w.cell? ⟨d, 7, none⟩ = some .nilFunc) : Calls Try.prog 52 #[.pointer (some ⟨d, 0, none⟩)] w fun e w' => e = .returned (.bool true) ∧ w' = w := by
  have hq := eql_nilfn
  go_enter Try.func52, Try.ntmps52
  go_wp2_with fail
  go_ret
  exact ⟨rfl, rfl⟩
/-- The error of what is not up. -/
def rdy (b : Bool) : Int := if b = false then 6 else 0
theorem ready_any {d : Nat} {S : DS} {Z : List Nat} {w : World} (h : DkS w d S Z) :
    Calls Try.prog 36 #[ptr d] w fun e w' => e = .returned (.int .i64 (rdy S.up)) ∧ w' = w := by
  have K := missing_any h
  obtain ⟨nb, sb, cb, fv, cv, rfl, h1⟩ := h
  obtain ⟨_, c1, _, _, _, _, _, _, _⟩ := h1.cells
  clear h1
  generalize S.up = u at *
  unfold ptr at *
  unfold rdy
  cases u
  · simp only [if_true]
    go_enter Try.func36, Try.ntmps36
    go_wp2_with fail
    refine K.mono ?_
    rintro e w ⟨rfl, rfl⟩
    go_wp2_with fail
    go_ret
    exact ⟨rfl, rfl⟩
  · simp only [Bool.true_eq_false, if_false]
    go_enter Try.func36, Try.ntmps36
    go_wp2_with fail
    refine K.mono ?_
    rintro e w ⟨rfl, rfl⟩
    go_wp2_with fail
    go_ret
    exact ⟨rfl, rfl⟩
theorem ready_of (p : Value) (w : World) (K : Calls Try.prog 52 #[p] w fun e w' => e = .returned (.bool true) ∧ w' = w) :
    Calls Try.prog 36 #[p] w fun e w' => e = .returned (.int .i64 2) ∧ w' = w := by
  go_enter Try.func36, Try.ntmps36
  go_wp2_with fail
  refine K.mono ?_
  rintro e w ⟨rfl, rfl⟩
  go_wp2_with fail
  go_ret
  exact ⟨rfl, rfl⟩
theorem has_any {d : Nat} {S : DS} {Z : List Nat} {w : World} (h : DkS w d S Z) (x : Int) :
    Calls Try.prog 37 #[ptr d, .int .i64 x] w fun e w' => e = .returned (.bool (decide (0 ≤ x ∧ x < (S.N : Int)))) ∧ w' = w := by
  obtain ⟨nb, sb, cb, fv, cv, rfl, h1⟩ := h
  obtain ⟨c0, _, _, _, _, _, _, _, _⟩ := h1.cells
  clear h1
  generalize (S.N : Int) = n at *
  unfold ptr at *
  by_cases h0 : 0 ≤ x
  · have e : decide (0 ≤ x ∧ x < n) = decide (x < n) := by simp [h0]
    rw [e]
    clear e
    go_enter Try.func37, Try.ntmps37
    go_wp2_with fail
    go_ret
    exact ⟨rfl, rfl⟩
  · have e : decide (0 ≤ x ∧ x < n) = false := by simp [h0]
    rw [e]
    clear e
    go_enter Try.func37, Try.ntmps37
    go_wp2_with fail
    go_ret
    exact ⟨rfl, rfl⟩
theorem len_any {d : Nat} {S : DS} {Z : List Nat} {w : World} (h : DkS w d S Z) :
    Calls Try.prog 53 #[ptr d] w fun e w' => e = .returned (.int .i64 (S.N : Int)) ∧ w' = w := by
  have K := missing_any h
  obtain ⟨nb, sb, cb, fv, cv, rfl, h1⟩ := h
  obtain ⟨c0, c1, c2, c3, _, _, _, _, _⟩ := h1.cells
  clear h1
  generalize (S.N : Int) = n at *
  generalize (S.cnt : Int) = m at *
  generalize (S.since.length : Int) = q at *
  generalize S.up = u at *
  unfold ptr at *
  go_enter Try.func53, Try.ntmps53
  go_wp2_with fail
  refine K.mono ?_
  rintro e w ⟨rfl, rfl⟩
  go_wp2_with fail
  go_ret
  exact ⟨rfl, rfl⟩
theorem len_of (p : Value) (w : World) (K : Calls Try.prog 52 #[p] w fun e w' => e = .returned (.bool true) ∧ w' = w) :
    Calls Try.prog 53 #[p] w fun e w' => e = .returned (.int .i64 0) ∧ w' = w := by
  go_enter Try.func53, Try.ntmps53
  go_wp2_with fail
  refine K.mono ?_
  rintro e w ⟨rfl, rfl⟩
  go_wp2_with fail
  go_ret
  exact ⟨rfl, rfl⟩
theorem count_any {d : Nat} {S : DS} {Z : List Nat} {w : World} (h : DkS w d S Z) :
    Calls Try.prog 19 #[ptr d] w fun e w' => e = .returned (.int .i64 (S.cnt : Int)) ∧ w' = w := by
  have K := missing_any h
  obtain ⟨nb, sb, cb, fv, cv, rfl, h1⟩ := h
  obtain ⟨c0, c1, c2, c3, _, _, _, _, _⟩ := h1.cells
  clear h1
  generalize (S.N : Int) = n at *
  generalize (S.cnt : Int) = m at *
  generalize (S.since.length : Int) = q at *
  generalize S.up = u at *
  unfold ptr at *
  go_enter Try.func19, Try.ntmps19
  go_wp2_with fail
  refine K.mono ?_
  rintro e w ⟨rfl, rfl⟩
  go_wp2_with fail
  go_ret
  exact ⟨rfl, rfl⟩
theorem count_of (p : Value) (w : World) (K : Calls Try.prog 52 #[p] w fun e w' => e = .returned (.bool true) ∧ w' = w) :
    Calls Try.prog 19 #[p] w fun e w' => e = .returned (.int .i64 0) ∧ w' = w := by
  go_enter Try.func19, Try.ntmps19
  go_wp2_with fail
  refine K.mono ?_
  rintro e w ⟨rfl, rfl⟩
  go_wp2_with fail
  go_ret
  exact ⟨rfl, rfl⟩
theorem unsynced_any {d : Nat} {S : DS} {Z : List Nat} {w : World} (h : DkS w d S Z) :
    Calls Try.prog 33 #[ptr d] w fun e w' => e = .returned (.int .i64 (S.since.length : Int)) ∧ w' = w := by
  have K := missing_any h
  obtain ⟨nb, sb, cb, fv, cv, rfl, h1⟩ := h
  obtain ⟨c0, c1, c2, c3, _, _, _, _, _⟩ := h1.cells
  clear h1
  generalize (S.N : Int) = n at *
  generalize (S.cnt : Int) = m at *
  generalize (S.since.length : Int) = q at *
  generalize S.up = u at *
  unfold ptr at *
  go_enter Try.func33, Try.ntmps33
  go_wp2_with fail
  refine K.mono ?_
  rintro e w ⟨rfl, rfl⟩
  go_wp2_with fail
  go_ret
  exact ⟨rfl, rfl⟩
theorem unsynced_of (p : Value) (w : World) (K : Calls Try.prog 52 #[p] w fun e w' => e = .returned (.bool true) ∧ w' = w) :
    Calls Try.prog 33 #[p] w fun e w' => e = .returned (.int .i64 0) ∧ w' = w := by
  go_enter Try.func33, Try.ntmps33
  go_wp2_with fail
  refine K.mono ?_
  rintro e w ⟨rfl, rfl⟩
  go_wp2_with fail
  go_ret
  exact ⟨rfl, rfl⟩
theorem up_any {d : Nat} {S : DS} {Z : List Nat} {w : World} (h : DkS w d S Z) :
    Calls Try.prog 30 #[ptr d] w fun e w' => e = .returned (.bool S.up) ∧ w' = w := by
  have K := missing_any h
  obtain ⟨nb, sb, cb, fv, cv, rfl, h1⟩ := h
  obtain ⟨c0, c1, c2, c3, _, _, _, _, _⟩ := h1.cells
  clear h1
  generalize (S.N : Int) = n at *
  generalize (S.cnt : Int) = m at *
  generalize (S.since.length : Int) = q at *
  generalize S.up = u at *
  unfold ptr at *
  go_enter Try.func30, Try.ntmps30
  go_wp2_with fail
  refine K.mono ?_
  rintro e w ⟨rfl, rfl⟩
  go_wp2_with fail
  go_ret
  exact ⟨rfl, rfl⟩
theorem up_of (p : Value) (w : World) (K : Calls Try.prog 52 #[p] w fun e w' => e = .returned (.bool true) ∧ w' = w) :
    Calls Try.prog 30 #[p] w fun e w' => e = .returned (.bool false) ∧ w' = w := by
  go_enter Try.func30, Try.ntmps30
  go_wp2_with fail
  refine K.mono ?_
  rintro e w ⟨rfl, rfl⟩
  go_wp2_with fail
  go_ret
  exact ⟨rfl, rfl⟩

end Go.Proofs.Ytimhjheigejjmab
