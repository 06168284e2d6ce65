/- The contract of the document's Resolution. -/
import Derived.Test.YtpgppnmobbgefaaGreatDoorTeL
namespace Go.Proofs.YtpgppnmobbgefaaGreatDoor
open Go.RowKit Go.Maps

set_option maxRecDepth 100000 in
set_option maxHeartbeats 1000000 in
theorem rresX_any {w : World} {v : Value} {T : List Nd} (h : Trd w v T) (x : Int) :
    Calls Tryz.prog 34 #[.agg #[v], .int .i64 x] w fun e w' => ∃ r, e = .returned (.tuple #[r, .int .i64 (resE T x)]) ∧ Ints w.heap.size w' r (if resE T x = 0 then rsl T x.toNat else []) ∧ Below w.heap.size w w' := by
  have K := rcheck_any (h.bw (bwA w (.cells #[v] 24)))
  have KR : Hid (∀ W, mayB T = true → 0 ≤ x → x < (T.length : Int) → Below w.heap.size w W → Calls Tryz.prog 173 #[.agg #[v], .int .i64 x] W fun e w' => ∃ r, e = .returned r ∧ Ints W.heap.size w' r (rsl T x.toNat) ∧ Below W.heap.size W w') := fun W q h1 h2 hW => by
    have ok := mayB_okn q (by omega)
    obtain ⟨g1, g2, g3, g4, g5⟩ := ok.wd.facts
    obtain ⟨n, rfl⟩ : ∃ n : Nat, x = n := ⟨x.toNat, by omega⟩
    exact rres_at ok.wd ok.sm n (by omega) (h.bw hW)
  obtain ⟨a, c, rfl⟩ := h.slice
  have hl : (T.length : Int) ≤ 140737488355328 := by have := h.len; omega
  obtain ⟨E, hE⟩ : ∃ E, E = resE T x := ⟨_, rfl⟩
  rw [← hE]
  unfold resE at hE
  have HE := hide hE
  clear h hE
  generalize mayB T = p at *
  generalize T.length = N at *
  generalize rsl T x.toNat = L at *
  go_enter Tryz.func34, Tryz.ntmps34
  go_wp2_with fail
  refine K.mono ?_
  rintro e w1 ⟨rfl, b1⟩
  have c1 := bx_cell b1
  have b2 := bx_bel b1
  cases p
  · obtain rfl : E = 1 := by rw [unhide HE]; simp
    clear KR HE
    go_wp2
    go_ret2
    exact ⟨_, rfl, ints_nil _ _, b2⟩
  · by_cases g1 : x < 0
    · obtain rfl : E = 7 := by rw [unhide HE]; simp [g1]
      clear KR HE
      go_wp2
      go_ret2
      exact ⟨_, rfl, ints_nil _ _, b2⟩
    · have g1' : decide (x < 0) = false := decide_eq_false g1
      by_cases g2 : (N : Int) ≤ x
      · obtain rfl : E = 7 := by rw [unhide HE]; simp [g2]
        clear KR HE
        go_wp2
        go_ret2
        exact ⟨_, rfl, ints_nil _ _, b2⟩
      · have g2' : decide ((N : Int) ≤ x) = false := decide_eq_false g2
        obtain rfl : E = 0 := by rw [unhide HE]; simp [g1, g2]
        have KR2 := unhide KR w1 rfl (by omega) (by omega) b2
        have hsz := b2.size
        clear KR HE
        go_wp2_with fail
        refine KR2.mono ?_
        rintro e w3 ⟨r, rfl, hr, b3⟩
        go_wp2
        go_ret2
        exact ⟨_, rfl, by simpa using hr.mono hsz, bw_tr b2 b3⟩
end Go.Proofs.YtpgppnmobbgefaaGreatDoor
