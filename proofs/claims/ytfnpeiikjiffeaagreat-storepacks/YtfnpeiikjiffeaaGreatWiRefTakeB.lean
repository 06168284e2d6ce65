/- Contracts of the document's own answers for reading: many, TakeText, TakeList. -/
import Derived.Test.YtfnpeiikjiffeaaGreatWiRefTake
namespace Go.Proofs.YtfnpeiikjiffeaaGreat.Wi
open Go.RowKit

set_option maxHeartbeats 400000 in
set_option maxRecDepth 100000 in
theorem refmany_any (s : ByteArray) (k : Nat) (w : World) (hs : s.size ≤ 140737488355328) (hk : k ≤ s.size) :
    Calls Tryz.prog 80 #[.string s, .int .i64 k] w fun e w' => e = refRes (.int .i64 0) k (numO (tcnt s.data.toList k)) ∧ w' = w := by
  have K := refTakeNumber_any s k w hs hk
  cases ho : tnum s.data.toList k with
  | none =>
    rw [ho] at K
    have HT : Hid (tcnt s.data.toList k = none) := by unfold Hid tcnt; rw [ho]
    clear ho
    go_enter Tryz.func80, Tryz.ntmps80
    go_wp2_with (go_at_call 99; refine K.mono ?_; rintro e w1 ⟨he, rfl⟩; simp only [refRes, numO, Option.map] at he; subst he)
    go_ret3
    rw [HT.out]
    exact ⟨rfl, rfl⟩
  | some p =>
    obtain ⟨n, j⟩ := p
    rw [ho] at K
    by_cases hn : n < 0 ∨ 65536 < n
    · have HT : Hid (tcnt s.data.toList k = none) := by unfold Hid tcnt; rw [ho]; simp only [if_pos hn]
      clear ho
      by_cases hn0 : n < 0
      · clear hn
        go_enter Tryz.func80, Tryz.ntmps80
        go_wp2_with (go_at_call 99; refine K.mono ?_; rintro e w1 ⟨he, rfl⟩; simp only [refRes, numO, Option.map] at he; subst he)
        go_ret3
        rw [HT.out]
        exact ⟨rfl, rfl⟩
      · have hn1 : 65536 < n := by omega
        clear hn
        go_enter Tryz.func80, Tryz.ntmps80
        go_wp2_with (go_at_call 99; refine K.mono ?_; rintro e w1 ⟨he, rfl⟩; simp only [refRes, numO, Option.map] at he; subst he)
        go_ret3
        rw [HT.out]
        exact ⟨rfl, rfl⟩
    · have HT : Hid (tcnt s.data.toList k = some (n, j)) := by unfold Hid tcnt; rw [ho]; simp only [if_neg hn]
      have hn0 : ¬ n < 0 := by omega
      have hn1 : ¬ 65536 < n := by omega
      clear ho hn
      go_enter Tryz.func80, Tryz.ntmps80
      go_wp2_with (go_at_call 99; refine K.mono ?_; rintro e w1 ⟨he, rfl⟩; simp only [refRes, numO, Option.map] at he; subst he)
      go_ret3
      rw [HT.out]
      exact ⟨rfl, rfl⟩

set_option maxHeartbeats 400000 in
set_option maxRecDepth 100000 in
theorem refTakeList_any (s : ByteArray) (k : Nat) (w : World) (hs : s.size ≤ 140737488355328) (hk : k ≤ s.size) :
    Calls Tryz.prog 58 #[.string s, .int .i64 k] w fun e w' => e = refRes (.int .i64 0) k (numO (tcnt s.data.toList k)) ∧ w' = w := by
  have K := refmany_any s k w hs hk
  cases ho : tcnt s.data.toList k with
  | none =>
    rw [ho] at K
    clear ho
    go_enter Tryz.func58, Tryz.ntmps58
    go_wp2_with (go_at_call 80; refine K.mono ?_; rintro e w1 ⟨he, rfl⟩; simp only [refRes, numO, Option.map] at he; subst he)
    go_ret3
    exact ⟨rfl, rfl⟩
  | some p =>
    obtain ⟨n, j⟩ := p
    rw [ho] at K
    clear ho
    go_enter Tryz.func58, Tryz.ntmps58
    go_wp2_with (go_at_call 80; refine K.mono ?_; rintro e w1 ⟨he, rfl⟩; simp only [refRes, numO, Option.map] at he; subst he)
    go_ret3
    exact ⟨rfl, rfl⟩

set_option maxHeartbeats 400000 in
set_option maxRecDepth 100000 in
theorem refTakeText_any (s : ByteArray) (k : Nat) (w : World) (hs : s.size ≤ 140737488355328) (hk : k ≤ s.size) :
    Calls Tryz.prog 60 #[.string s, .int .i64 k] w fun e w' => e = refRes (.string ⟨#[]⟩) k (textO (ttext s.data.toList k)) ∧ w' = w := by
  have K := refmany_any s k w hs hk
  cases ho : tcnt s.data.toList k with
  | none =>
    rw [ho] at K
    have HT : Hid (ttext s.data.toList k = none) := by unfold Hid ttext; rw [ho]
    clear ho
    go_enter Tryz.func60, Tryz.ntmps60
    go_wp2_with (go_at_call 80; refine K.mono ?_; rintro e w1 ⟨he, rfl⟩; simp only [refRes, numO, Option.map] at he; subst he)
    go_ret3
    rw [HT.out]
    exact ⟨rfl, rfl⟩
  | some p =>
    obtain ⟨n, j⟩ := p
    rw [ho] at K
    obtain ⟨hkj, hj10, hjl, hn0, hn1⟩ := tcnt_place ho
    have hjs : j ≤ s.size := by simpa using hjl
    obtain ⟨m, rfl⟩ := Int.eq_ofNat_of_zero_le hn0
    by_cases hb : s.size < j + m
    · have HT : Hid (ttext s.data.toList k = none) := by unfold Hid ttext; rw [ho]; simp only; rw [if_pos (by simpa using hb)]
      clear ho
      have hb' : (s.size : Int) - (j : Int) < (m : Int) := by omega
      go_enter Tryz.func60, Tryz.ntmps60
      go_wp2_with (go_at_call 80; refine K.mono ?_; rintro e w1 ⟨he, rfl⟩; simp only [refRes, numO, Option.map] at he; subst he)
      go_ret3
      rw [HT.out]
      exact ⟨rfl, rfl⟩
    · have HT : Hid (ttext s.data.toList k = some ((s.data.toList.drop j).take m, j + m)) := by unfold Hid ttext; rw [ho]; simp only; rw [if_neg (by simpa using hb)]; simp
      clear ho
      have hb' : ¬ (s.size : Int) - (j : Int) < (m : Int) := by omega
      go_enter Tryz.func60, Tryz.ntmps60
      go_wp2_with (go_at_call 80; refine K.mono ?_; rintro e w1 ⟨he, rfl⟩; simp only [refRes, numO, Option.map] at he; subst he)
      go_ret3
      rw [HT.out]
      exact ⟨ret_three (congrArg Value.string (extract_str s j m)) (by go_num) rfl, rfl⟩
end Go.Proofs.YtfnpeiikjiffeaaGreat.Wi
