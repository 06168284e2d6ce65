/- Contracts of package journal: the methods that change nothing, Cost. -/
import Derived.Test.YtimhjheigejjmabJnK
namespace Go.Proofs.Ytimhjheigejjmab
open Go.RowKit Go.Maps

/-- A Journal in memory. -/
def jc (d n : Nat) (t : ByteArray) (lost : Bool) : Obj := .cells #[.pointer (some ⟨d, 0, none⟩), .int .i64 (n : Int), .string t, .bool lost] 67 (0, 0)
def jr (jb d n : Nat) (t : ByteArray) (lost : Bool) : Res := resBs [(jb, jc d n t lost)]
theorem jr_solid (jb d n : Nat) (t : ByteArray) (lost : Bool) : Solid (jr jb d n t lost) := solid_Bs (by intro p hp; simp at hp; subst hp; rfl)
theorem jr_blk {w W : World} {d : Nat} {S : DS} {rs : List Res} {jb n : Nat} {t : ByteArray} {lost : Bool} (h : ED w W d S (jr jb d n t lost :: rs)) : W.heap[jb]? = some (jc d n t lost) := ED.bs h (jb, jc d n t lost) (by simp)
theorem jr_cells {W : World} {jb d n : Nat} {t : ByteArray} {lost : Bool} (h : W.heap[jb]? = some (jc d n t lost)) : W.cell? ⟨jb, 0, none⟩ = some (.pointer (some ⟨d, 0, none⟩)) ∧ W.cell? ⟨jb, 1, none⟩ = some (.int .i64 (n : Int)) ∧ W.cell? ⟨jb, 2, none⟩ = some (.string t) ∧ W.cell? ⟨jb, 3, none⟩ = some (.bool lost) ∧ ∀ k, W.frozen? ⟨jb, k, none⟩ = false := by
  refine ⟨?_, ?_, ?_, ?_, fun k => ?_⟩ <;> simp [World.cell?, World.frozen?, h, jc]
theorem jmiss_nil (W : World) : Calls Try.prog 56 #[.pointer none] W fun e W' => e = .returned (.bool true) ∧ W' = W := by
  go_enter Try.func56, Try.ntmps56
  go_wp2
  go_ret
  exact ⟨rfl, rfl⟩
theorem jmiss_zero (W : World) (jb : Nat) (c0 : W.cell? ⟨jb, 0, none⟩ = some (.pointer none)) : Calls Try.prog 56 #[.pointer (some ⟨jb, 0, none⟩)] W fun e W' => e = .returned (.bool true) ∧ W' = W := by
  go_enter Try.func56, Try.ntmps56
  go_wp2
  go_ret
  exact ⟨rfl, rfl⟩
theorem jmiss_at (W : World) (jb d : Nat) (c0 : W.cell? ⟨jb, 0, none⟩ = some (.pointer (some ⟨d, 0, none⟩))) : Calls Try.prog 56 #[.pointer (some ⟨jb, 0, none⟩)] W fun e W' => e = .returned (.bool false) ∧ W' = W := by
  go_enter Try.func56, Try.ntmps56
  go_wp2
  go_ret
  exact ⟨rfl, rfl⟩
theorem jready_any {w W : World} {d : Nat} {S : DS} {rs : List Res} {jb n : Nat} {t : ByteArray} {lost : Bool} (h : ED w W d S (jr jb d n t lost :: rs)) :
    Calls Try.prog 61 #[.pointer (some ⟨jb, 0, none⟩)] W fun e W' => e = .returned (.int .i64 (if lost = true ∨ S.up = false then 6 else 0)) ∧ W' = W := by
  obtain ⟨c0, c1, c2, c3, -⟩ := jr_cells (jr_blk h)
  have KU := hide h.up
  have KM := hide (jmiss_at W jb d c0)
  generalize S.up = up at *
  clear h
  cases lost <;> cases up
  all_goals
    go_enter Try.func61, Try.ntmps61
    go_wp2_with (go_at_call 56; refine (unhide KM).mono ?_; rintro e w1 ⟨rfl, rfl⟩)
    first
      | (go_ret; exact ⟨by simp, rfl⟩)
      | (go_wp2_with (go_at_call 30; refine (unhide KU).mono ?_; rintro e w1 ⟨rfl, rfl⟩)
         go_ret
         exact ⟨by simp, rfl⟩)
theorem get_any {w W : World} {d : Nat} {S : DS} {rs : List Res} {jb n : Nat} {t : ByteArray} {lost : Bool} (h : ED w W d S (jr jb d n t lost :: rs)) :
    Calls Try.prog 28 #[.pointer (some ⟨jb, 0, none⟩)] W fun e W' => e = .returned (.tuple #[.string (if lost = true ∨ S.up = false then ByteArray.empty else t), .int .i64 (if lost = true ∨ S.up = false then 6 else 0)]) ∧ W' = W := by
  obtain ⟨c0, c1, c2, c3, -⟩ := jr_cells (jr_blk h)
  have KR := hide (jready_any h)
  clear h
  by_cases c : lost = true ∨ S.up = false
  · rw [if_pos c] at KR ⊢
    rw [if_pos c]
    clear c
    go_enter Try.func28, Try.ntmps28
    go_wp2_with (go_at_call 61; refine (unhide KR).mono ?_; rintro e w1 ⟨rfl, rfl⟩)
    go_ret2
    exact ⟨rfl, rfl⟩
  · rw [if_neg c] at KR ⊢
    rw [if_neg c]
    clear c
    go_enter Try.func28, Try.ntmps28
    go_wp2_with (go_at_call 61; refine (unhide KR).mono ?_; rintro e w1 ⟨rfl, rfl⟩)
    go_ret2
    exact ⟨rfl, rfl⟩
theorem jseq_any {w W : World} {d : Nat} {S : DS} {rs : List Res} {jb n : Nat} {t : ByteArray} {lost : Bool} (h : ED w W d S (jr jb d n t lost :: rs)) :
    Calls Try.prog 29 #[.pointer (some ⟨jb, 0, none⟩)] W fun e W' => e = .returned (.int .i64 (n : Int)) ∧ W' = W := by
  obtain ⟨c0, c1, c2, c3, -⟩ := jr_cells (jr_blk h)
  have KM := hide (jmiss_at W jb d c0)
  clear h
  go_enter Try.func29, Try.ntmps29
  go_wp2_with (go_at_call 56; refine (unhide KM).mono ?_; rintro e w1 ⟨rfl, rfl⟩)
  go_ret
  exact ⟨rfl, rfl⟩
theorem jRoom_any {w W : World} {d : Nat} {S : DS} {rs : List Res} {jb n : Nat} {t : ByteArray} {lost : Bool} (h : ED w W d S (jr jb d n t lost :: rs)) (h2 : 2 ≤ S.N) :
    Calls Try.prog 23 #[.pointer (some ⟨jb, 0, none⟩)] W fun e W' => e = .returned (.int .i64 (((S.N - 2) / 2 * 64 : Nat) : Int)) ∧ W' = W := by
  obtain ⟨c0, c1, c2, c3, -⟩ := jr_cells (jr_blk h)
  have KM := hide (jmiss_at W jb d c0)
  have KR := hide (room_any h h2)
  generalize (S.N - 2) / 2 * 64 = rm at *
  clear h
  go_enter Try.func23, Try.ntmps23
  go_wp2_with (first | (go_at_call 56; refine (unhide KM).mono ?_; rintro e w1 ⟨rfl, rfl⟩) | (go_at_call 58; refine (unhide KR).mono ?_; rintro e w1 ⟨rfl, rfl⟩))
  go_ret
  exact ⟨rfl, rfl⟩
end Go.Proofs.Ytimhjheigejjmab
