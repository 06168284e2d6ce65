/- The walk of JournalCosts. -/
import Derived.Test.YtimhjheigejjmabJnT
namespace Go.Proofs.Ytimhjheigejjmab
open Go.RowKit Go.Maps

set_option maxRecDepth 100000 in
set_option maxHeartbeats 4000000 in
theorem JournalCosts_walk (w : World) (n : Int) (_hn1 : -9223372036854775808 ≤ n) (hn2 : n ≤ 9223372036854775807) :
    Calls Try.prog 7 #[.int .i64 n] w fun e w' => e = .returned (.bool true) ∧ Below w.heap.size w w' := by
  by_cases hneg : n < 0
  · have K1 := hide (cost_neg n w hneg)
    have K2 := hide (rcost_low n w hneg)
    have KA := hide (j6alive_any w)
    go_enter Try.func7, Try.ntmps7
    go_wp2_with (first | (go_at_call 25; refine (unhide K1).mono ?_; rintro e w1 ⟨rfl, rfl⟩) | (go_at_call 31; refine (unhide K2).mono ?_; rintro e w1 ⟨rfl, rfl⟩) | (go_at_call 17; refine (unhide KA).mono ?_; rintro e w3 ⟨rfl, b3⟩))
    go_ret
    exact ⟨rfl, b3⟩
  obtain ⟨m, rfl⟩ : ∃ m : Nat, n = (m : Int) := ⟨n.toNat, by omega⟩
  have K1 := hide (cost_any m w (by omega))
  have K2 := hide (rcost_any m w (by omega))
  by_cases hbig : (1984 : Int) < (m : Int)
  · have KA := hide (j6alive_any w)
    generalize ((costN m : Nat) : Int) = c at *
    go_enter Try.func7, Try.ntmps7
    go_wp2_with (first | (go_at_call 25; refine (unhide K1).mono ?_; rintro e w1 ⟨rfl, rfl⟩) | (go_at_call 31; refine (unhide K2).mono ?_; rintro e w1 ⟨rfl, rfl⟩) | (go_at_call 17; refine (unhide KA).mono ?_; rintro e w3 ⟨rfl, b3⟩))
    go_ret
    exact ⟨rfl, b3⟩
  have K3 := hide (ED.start (Env.nil w) 64 (by omega) (by omega))
  obtain ⟨c, hc⟩ : ∃ c : Nat, c = costN m := ⟨_, rfl⟩
  rw [← hc] at K1 K2
  have HC := hide hc
  clear hc
  go_enter Try.func7, Try.ntmps7
  go_wp2_with (first | (go_at_call 25; refine (unhide K1).mono ?_; rintro e w1 ⟨rfl, rfl⟩) | (go_at_call 31; refine (unhide K2).mono ?_; rintro e w1 ⟨rfl, rfl⟩))
  refine (unhide K3).mono ?_
  rintro e W1 ⟨d, rfl, E1⟩
  have K4 := hide (good_open E1 (good_new (by omega)))
  clear K1 K2 K3 E1
  go_wp2_with fail
  refine (unhide K4).mono ?_
  rintro e W2 ⟨jb, rfl, E2⟩
  have K5 := hide (text6_any m 1 (by omega) (by omega) (by omega) W2)
  have K6 := hide (fun Y (hY : Below W2.heap.size W2 Y) => good_put (E2.new hY) (by simp) (good_new (by omega)) rfl (by omega) (gil 1 m) (by rw [gil_size]; show m ≤ 1984; omega) (by decide))
  clear K4 E2
  go_wp2_with fail
  refine (unhide K5).mono ?_
  rintro e W3 ⟨rfl, b3⟩
  have K7 := hide (unhide K6 W3 b3)
  clear K5 K6 b3
  go_wp2_with fail
  refine (unhide K7).mono ?_
  rintro e W4 ⟨S', rfl, g1, g2, g3, g4, E4⟩
  have hcn : S'.cnt = c := by rw [g3, gil_size, unhide HC]; show 0 + costN m = _; omega
  have K8 := hide E4.count
  rw [hcn] at K8
  have K9 := hide E4.unsynced
  rw [g1.sn] at K9
  have KA := hide (j6alive_any W4)
  have HB := hide E4.bel
  clear K7 E4 g1 g2 g3 g4
  go_wp2_with (first | (go_at_call 19; refine (unhide K8).mono ?_; rintro e w1 ⟨rfl, rfl⟩) | (go_at_call 33; refine (unhide K9).mono ?_; rintro e w1 ⟨rfl, rfl⟩) | (go_at_call 17; refine (unhide KA).mono ?_; rintro e w3 ⟨rfl, b3⟩))
  go_ret
  exact ⟨rfl, bw_tr (unhide HB) b3⟩
end Go.Proofs.Ytimhjheigejjmab
