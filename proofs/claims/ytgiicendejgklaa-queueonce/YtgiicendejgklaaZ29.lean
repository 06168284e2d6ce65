/- Texts joined: QuLs QuB1. -/
import Derived.Test.YtgiicendejgklaaZ18
import Derived.Test.YtgiicendejgklaaZ28
import Derived.Deep.RegionHeld3
/- How great feeds and links are, as they come in: FeedSize, LinkSize, size. mkQuLs.py writes it. -/
namespace Go.Proofs.Ytgiicendejgklaa
open Go.RowKit Go.Maps
end Go.Proofs.Ytgiicendejgklaa

/- Beyond of one number (out of DkFrame). mkQuAc.py writes it. -/
namespace Go.Proofs.Ytgiicendejgklaa
open Go.RowKit Go.Maps
set_option maxHeartbeats 400000 in
theorem beyond17a (b : Nat) (n : Nat) (c : Nat) (w : World) (hn : n ≤ 9007199254740992) (h0 : w.cell? ⟨b, 0, none⟩ = some (.int .i64 n)) :
    Calls Try.prog 8 #[.slice (some ⟨b, 0, none⟩) 1 c] w fun e w' => e = .returned (.bool (decide (262144 < n))) ∧ w' = w := by
  by_cases hb : 262144 < n
  · rw [decide_eq_true hb]
    go_enter Try.func8, Try.ntmps8
    go_wp2
    refine wp_loop_rounds 1 ?_
    rw [rounds_succ]
    go_wp2
    go_ret
    exact ⟨rfl, rfl⟩
  · rw [decide_eq_false hb]
    go_enter Try.func8, Try.ntmps8
    go_wp2
    refine wp_loop_rounds 2 ?_
    rw [rounds_succ]
    go_wp2
    rw [rounds_succ]
    go_wp2
    go_ret
    exact ⟨rfl, rfl⟩
end Go.Proofs.Ytgiicendejgklaa
