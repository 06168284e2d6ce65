/- Beyond of two numbers; how great a tree behind SetPath is. -/
import Derived.Test.YtpgppnmobbgefaaGreatDoorTeQ
namespace Go.Proofs.YtpgppnmobbgefaaGreatDoor
open Go.RowKit Go.Maps

set_option maxRecDepth 100000 in
set_option maxHeartbeats 2000000 in
theorem beyond9 (b : Nat) (n m : Nat) (c : Nat) (w : World) (hn : n ≤ 1125899906842624) (hm : m ≤ 1125899906842624) (h0 : w.cell? ⟨b, 0, none⟩ = some (.int .i64 n)) (h1 : w.cell? ⟨b, 1, none⟩ = some (.int .i64 m)) :
    Calls Tryz.prog 7 #[.slice (some ⟨b, 0, none⟩) 2 c] w fun e w' => ∃ r, e = .returned (.bool r) ∧ (r = false → n ≤ 262144 ∧ m ≤ 262144) ∧ w' = w := by
  by_cases hb : 262144 < n
  · go_enter Tryz.func7, Tryz.ntmps7
    go_wp2
    refine wp_loop_rounds 1 ?_
    rw [rounds_succ]
    go_wp2
    go_ret
    exact ⟨_, rfl, (fun q => by cases q), rfl⟩
  by_cases hc : 262144 < m
  · go_enter Tryz.func7, Tryz.ntmps7
    go_wp2
    refine wp_loop_rounds 2 ?_
    rw [rounds_succ]
    go_wp2
    rw [rounds_succ]
    go_wp2
    go_ret
    exact ⟨_, rfl, (fun q => by cases q), rfl⟩
  by_cases hd : 262144 < n + m
  · have hd' : (262144 : Int) < (n : Int) + (m : Int) := by omega
    go_enter Tryz.func7, Tryz.ntmps7
    go_wp2
    refine wp_loop_rounds 2 ?_
    rw [rounds_succ]
    go_wp2
    rw [rounds_succ]
    go_wp2
    go_ret
    exact ⟨_, rfl, (fun q => by cases q), rfl⟩
  · have hd' : (n : Int) + (m : Int) ≤ 262144 := by omega
    go_enter Tryz.func7, Tryz.ntmps7
    go_wp2
    refine wp_loop_rounds 3 ?_
    rw [rounds_succ]
    go_wp2
    rw [rounds_succ]
    go_wp2
    rw [rounds_succ]
    go_wp2
    go_ret
    exact ⟨_, rfl, fun _ => ⟨by omega, by omega⟩, rfl⟩
theorem setE_ok {T : List Nd} {li ee pp : Int} {ps : List Int} (hE : setE T li ee pp ps = 0) : mayB T = true ∧ 0 ≤ ee ∧ 1 ≤ pp ∧ hasL T li = true ∧ ps.length = (pth T li.toNat).length ∧ ps.any (fun q => decide (q < 1)) = false := by
  unfold setE at hE
  split at hE
  · cases hE
  · rename_i hh
    simp only [not_or, Bool.not_eq_false] at hh
    split at hE
    · cases hE
    · rename_i h2
      split at hE
      · cases hE
      · rename_i h3
        simp only [not_or, Bool.not_eq_true] at h3
        exact ⟨hh.1, by omega, by omega, by simpa using h2, by omega, h3.2⟩
theorem setR_bnd (T : List Nd) (li e p : Int) (ps : List Int) : (setR T li e p ps).length ≤ 15 ∧ ∀ x ∈ setR T li e p ps, x.un.length ≤ 8 := by
  unfold setR; split
  · next h =>
    obtain ⟨qm, q1, q2, q3, q4, q5⟩ := setE_ok h
    have hli : 0 ≤ li := by
      apply Decidable.byContradiction; intro c; unfold hasL at q3; rw [decide_eq_false c] at q3; simp at q3
    obtain ⟨i, rfl⟩ : ∃ n : Nat, li = n := ⟨li.toNat, by omega⟩
    rw [Int.toNat_natCast] at *
    obtain ⟨hil, hpi⟩ := hasL_pos q3
    have ok := mayB_okn qm (nlv_pos (by omega))
    have e : setT T i e p ps = setPL (onAll (fun _ => nd0) (upN (nlv T) i) (T.set (2 * i) ⟨p, (ndAt T (2 * i)).mem, e, (ndAt T (2 * i)).un⟩)) ((pth T i).zip ps) := rfl
    rw [e]
    obtain ⟨g1, g2, g3, g4, g5⟩ := ok.wd.facts
    obtain ⟨d1, d2, d3, d4, d5, d6⟩ := up_of g1 hil
    have hun : ∀ y, (ndAt T y).un.length ≤ 8 := fun y => (un_ok qm y).2
    refine ⟨by rw [setPL_len, onAll_len, List.length_set]; exact g3, fun x hx => ?_⟩
    obtain ⟨k, hk⟩ := List.mem_iff_getElem?.1 hx
    have hlt := (List.getElem?_eq_some_iff.1 hk).1
    rw [ndAt_of hlt] at hk
    cases hk
    rw [(setPL_keep _ _ k).2.2, ndAt_onAll _ _ _ _ d4]
    split
    · simp [nd0]
    · rw [ndAt_set]
      split
      · exact hun (2 * i)
      · exact hun k
  · simp
end Go.Proofs.YtpgppnmobbgefaaGreatDoor
