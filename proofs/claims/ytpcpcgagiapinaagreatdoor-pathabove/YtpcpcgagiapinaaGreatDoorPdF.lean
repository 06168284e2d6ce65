/- What the document's Above refuses. -/
import Derived.Test.YtpcpcgagiapinaaGreatDoorZ32
namespace Go.Proofs.YtpcpcgagiapinaaGreatDoor.Tn.Pa
open Go.RowKit Go.Maps
set_option maxRecDepth 100000 in
set_option maxHeartbeats 8000000 in
theorem dAbove_err {b : Nat} {sv : Value} {R : List Tm} {w : World} (h : Rs w b sv R) {v : Value} {T : List Nd} (ht : Trd w v T) (node secret : Int) (hbad : (heldB R T && decide (0 ≤ node) && decide (node < (T.length : Int)) && thr R.length secret) = false) :
    Calls Tryz.prog 19 #[.pointer (some ⟨b, 0, none⟩), .agg #[v], .int .i64 node, .int .i64 secret] w fun e w' => e = .returned (.tuple #[nilV, .int .i64 0, .int .i64 1]) ∧ Below w.heap.size w w' := by
  have hlen := ht.len
  rw [show heldB R T = (mayB T && pubsB R T) from rfl] at hbad
  obtain ⟨va, c, rfl⟩ := ht.slice
  obtain ⟨NT, hNT⟩ : ∃ NT, NT = T.length := ⟨_, rfl⟩
  obtain ⟨tb, htb⟩ : ∃ tb, tb = w.heap.size := ⟨_, rfl⟩
  rw [← hNT] at hbad hlen ⊢
  obtain ⟨w0, hw0⟩ : ∃ w0, w0 = w.alloc (.cells #[.slice va NT c] 44) := ⟨_, rfl⟩
  have x0 : Below w.heap.size w w0 := by rw [hw0]; exact bwA' _ _
  have k0 : w0.heap[tb]? = some (.cells #[.slice va NT c] 44 (0, 0)) := by rw [hw0, htb]; exact heap_alloc_new _ _
  have HB0 : Hid (∀ W, Below w0.heap.size w0 W → W.cell? ⟨tb, 0, none⟩ = some (.slice va NT c)) := fun W hW => blk_cell (kept_blk k0 hW) rfl
  have HBW : Hid (∀ W, Below w0.heap.size w0 W → Below w.heap.size w W) := fun W hW => bw_tr x0 hW
  have HTR : Hid (∀ W, Below w0.heap.size w0 W → Trd W (.slice va NT c) T) := fun W hW => by have := ht.bw (bw_tr x0 hW); rw [← hNT] at this; exact this
  have KC := hide (Go.Proofs.YtpcpcgagiapinaaGreatDoor.rcheck_any (unhide HTR w0 (Below.refl _ _)))
  have KH : Hid (∀ W, Below w0.heap.size w0 W → Calls Tryz.prog 55 #[.pointer (some ⟨b, 0, none⟩), .agg #[.slice va NT c]] W fun e w' => e = .returned (.bool (pubsB R T)) ∧ Below W.heap.size W w') := fun W hW => q9held_any (h.bw (bw_tr x0 hW)) _ T (unhide HTR W hW)
  have KI : Hid (∀ W, Below w0.heap.size w0 W → Calls Tryz.prog 38 #[.pointer (some ⟨b, 0, none⟩), .int .i64 secret] W fun e w' => e = .returned (.bool (thr R.length secret)) ∧ Below W.heap.size W w') := fun W hW => ris (h.bw (bw_tr x0 hW)) secret
  have HBAD := hide hbad
  have HW := hide (And.intro hw0 htb)
  have hNb : (NT : Int) ≤ 140737488355328 := by omega
  have c0 := unhide HB0 w0 (Below.refl _ _)
  clear h ht hbad hlen hNT hw0 x0 k0 htb HTR
  generalize mayB T = mb at *
  generalize pubsB R T = pb at *
  generalize thr R.length secret = tt at *
  go_enter Tryz.func19, Tryz.ntmps19
  go_upto_region 1 with fail
  rw [← (unhide HW).1, ← (unhide HW).2]
  clear HW
  go_wp2_with fail
  refine (unhide KC).mono ?_
  rintro e w1 ⟨rfl, b1⟩
  clear KC c0
  have c1 := unhide HB0 w1 b1
  cases mb
  · clear HBAD KH KI
    have e1 : (if false = true then (0 : Int) else 1) = 1 := rfl
    rw [e1]
    have B := unhide HBW _ b1
    clear HBW HB0
    go_wp2_with fail
    go_ret3
    exact ⟨rfl, B⟩
  rw [if_pos rfl]
  have K2 := hide (unhide KH w1 b1)
  have HB1 := hide b1
  clear b1 KH
  go_wp2_with fail
  refine (unhide K2).mono ?_
  rintro e w2 ⟨rfl, b2'⟩
  have b2 := bw_tr (unhide HB1) b2'
  have c2 := unhide HB0 w2 b2
  clear K2 c1 b2' HB1
  cases pb
  · clear HBAD KI
    have B := unhide HBW _ b2
    clear HBW HB0
    go_wp2_with fail
    go_ret3
    exact ⟨rfl, B⟩
  by_cases n0 : 0 ≤ node
  case neg =>
    have g1 : decide (node < 0) = true := decide_eq_true (by omega)
    clear HBAD KI
    have B := unhide HBW _ b2
    clear HBW HB0
    go_wp2_with fail
    go_ret3
    exact ⟨rfl, B⟩
  have g0 : decide (node < 0) = false := decide_eq_false (by omega)
  by_cases n1 : node < (NT : Int)
  case neg =>
    have g1 : decide ((NT : Int) ≤ node) = true := decide_eq_true (by omega)
    clear HBAD KI
    have B := unhide HBW _ b2
    clear HBW HB0
    go_wp2_with fail
    go_ret3
    exact ⟨rfl, B⟩
  have g1 : decide ((NT : Int) ≤ node) = false := decide_eq_false (by omega)
  obtain rfl : tt = false := by
    have := unhide HBAD
    rw [decide_eq_true n0, decide_eq_true n1] at this
    simpa using this
  have K3 := hide (unhide KI w2 b2)
  have HB2 := hide b2
  clear HBAD KI b2
  go_wp2_with fail
  refine (unhide K3).mono ?_
  rintro e w3 ⟨rfl, b3'⟩
  have b3 := bw_tr (unhide HB2) b3'
  clear K3 c2 HB2 b3'
  have B := unhide HBW _ b3
  clear HBW HB0
  go_wp2_with fail
  go_ret3
  exact ⟨rfl, B⟩
end Go.Proofs.YtpcpcgagiapinaaGreatDoor.Tn.Pa
