/- Package account: derived, card; the closures of Digest, Seed and Card, and Whole of each. -/
import Derived.Test.YtokdflbajnecpaaAcD
namespace Go.Proofs.Ytokdflbajnecpaa.Tn.Ax
open Go.RowKit Go.Maps

set_option maxRecDepth 100000 in
theorem acderived_any (w : World) (l s c : Int) :
    Calls Try.prog 44 #[.int .i64 l, .int .i64 s, .int .i64 c] w fun e w' => e = .returned (.agg #[.int .u8 4, .int .i64 l, .int .i64 s, .int .i64 c]) ∧ Below w.heap.size w w' := by
  go_enter Try.func44, Try.ntmps44
  go_wp2
  exact bodyPost_ret (v := .agg #[.int .u8 4, .int .i64 l, .int .i64 s, .int .i64 c]) (by simp [results, Try.results44, go_sem]) rfl ⟨rfl, bwA' _ _⟩
set_option maxRecDepth 100000 in
set_option maxHeartbeats 4000000 in
theorem whole_dig {b : Nat} {sv : Value} {mb : Nat} {L L' : List Tm} {w : World} (h : St w b sv mb L) (m : Int) (hm : 0 ≤ m) (hl : (L.length : Int) + m ≤ 1048575) (p1 p2 : Nat) (r : Int)
    (K : ∀ W, Below w.heap.size w W → Calls Try.prog 34 #[.pointer (some ⟨b, 0, none⟩), .pointer (some ⟨p1, 0, none⟩), .pointer (some ⟨p2, 0, none⟩)] W fun e w' => e = .returned (.tuple #[.int .i64 r, .int .i64 0]) ∧ ∃ sv', SStep w w' b sv sv' mb L') :
    Calls Try.prog 33 #[.pointer (some ⟨b, 0, none⟩), .int .i64 m, .func (.func 34) #[] #[.pointer (some ⟨p1, 0, none⟩), .pointer (some ⟨p2, 0, none⟩)]] w fun e w' => e = .returned (.tuple #[.int .i64 r, .int .i64 0]) ∧ ∃ sv', SStep w w' b sv sv' mb L' := by
  have KL : Hid (∀ W, Below w.heap.size w W → Calls Try.prog 50 #[.pointer (some ⟨b, 0, none⟩)] W fun e w' => e = .returned (.int .i64 (L.length : Int)) ∧ w' = W) := fun W hW => len_any b sv mb L W (h.bw hW)
  have KF := hide K
  obtain ⟨N, hN⟩ : ∃ N : Int, N = (L.length : Int) := ⟨_, rfl⟩
  rw [← hN] at KL
  obtain ⟨R, hR⟩ : ∃ R : Int, R = 1048576 - N := ⟨_, rfl⟩
  have r0 : (1048576 : Int) - N = R := hR.symm
  have r1 : IntKind.i64.wrap R = R := by rw [IntKind.wrap_i64]; omega
  have r2 : 0 < R := by omega
  have r3 : decide (R < m) = false := decide_eq_false (by omega)
  have r4 : m ≤ R := by omega
  clear h hl hN hR K hm
  go_enter Try.func33, Try.ntmps33
  go_wp2_with fail
  refine (unhide KL _ (Below.refl _ _)).mono ?_
  rintro e w0 ⟨rfl, rfl⟩
  clear KL
  go_wp2_with fail
  refine (unhide KF _ (Below.refl _ _)).mono ?_
  rintro e w4 ⟨rfl, s4⟩
  have S4 := hide s4
  clear s4 KF r0 r1 r2 r3 r4
  go_wp2
  go_ret2
  exact ⟨rfl, unhide S4⟩
set_option maxRecDepth 100000 in
set_option maxHeartbeats 4000000 in
theorem whole_seed {b : Nat} {sv : Value} {mb : Nat} {L L' : List Tm} {w : World} (h : St w b sv mb L) (m : Int) (hm : 0 ≤ m) (hl : (L.length : Int) + m ≤ 1048575) (p1 p2 p3 p4 p5 : Nat) (r : Int)
    (K : ∀ W, Below w.heap.size w W → Calls Try.prog 40 #[.pointer (some ⟨b, 0, none⟩), .pointer (some ⟨p1, 0, none⟩), .pointer (some ⟨p2, 0, none⟩), .pointer (some ⟨p3, 0, none⟩), .pointer (some ⟨p4, 0, none⟩), .pointer (some ⟨p5, 0, none⟩)] W fun e w' => e = .returned (.tuple #[.int .i64 r, .int .i64 0]) ∧ ∃ sv', SStep w w' b sv sv' mb L') :
    Calls Try.prog 33 #[.pointer (some ⟨b, 0, none⟩), .int .i64 m, .func (.func 40) #[] #[.pointer (some ⟨p1, 0, none⟩), .pointer (some ⟨p2, 0, none⟩), .pointer (some ⟨p3, 0, none⟩), .pointer (some ⟨p4, 0, none⟩), .pointer (some ⟨p5, 0, none⟩)]] w fun e w' => e = .returned (.tuple #[.int .i64 r, .int .i64 0]) ∧ ∃ sv', SStep w w' b sv sv' mb L' := by
  have KL : Hid (∀ W, Below w.heap.size w W → Calls Try.prog 50 #[.pointer (some ⟨b, 0, none⟩)] W fun e w' => e = .returned (.int .i64 (L.length : Int)) ∧ w' = W) := fun W hW => len_any b sv mb L W (h.bw hW)
  have KF := hide K
  obtain ⟨N, hN⟩ : ∃ N : Int, N = (L.length : Int) := ⟨_, rfl⟩
  rw [← hN] at KL
  obtain ⟨R, hR⟩ : ∃ R : Int, R = 1048576 - N := ⟨_, rfl⟩
  have r0 : (1048576 : Int) - N = R := hR.symm
  have r1 : IntKind.i64.wrap R = R := by rw [IntKind.wrap_i64]; omega
  have r2 : 0 < R := by omega
  have r3 : decide (R < m) = false := decide_eq_false (by omega)
  have r4 : m ≤ R := by omega
  clear h hl hN hR K hm
  go_enter Try.func33, Try.ntmps33
  go_wp2_with fail
  refine (unhide KL _ (Below.refl _ _)).mono ?_
  rintro e w0 ⟨rfl, rfl⟩
  clear KL
  go_wp2_with fail
  refine (unhide KF _ (Below.refl _ _)).mono ?_
  rintro e w4 ⟨rfl, s4⟩
  have S4 := hide s4
  clear s4 KF r0 r1 r2 r3 r4
  go_wp2
  go_ret2
  exact ⟨rfl, unhide S4⟩
set_option maxRecDepth 100000 in
set_option maxHeartbeats 4000000 in
theorem whole_card {b : Nat} {sv : Value} {mb : Nat} {L L' : List Tm} {w : World} (h : St w b sv mb L) (m : Int) (hm : 0 ≤ m) (hl : (L.length : Int) + m ≤ 1048575) (p1 : Nat) (r1 r2 : Int)
    (K : ∀ W, Below w.heap.size w W → Calls Try.prog 47 #[.pointer (some ⟨b, 0, none⟩), .pointer (some ⟨p1, 0, none⟩)] W fun e w' => e = .returned (.tuple #[.agg #[.int .i64 r1, .int .i64 r2], .int .i64 0]) ∧ ∃ sv', SStep W w' b sv sv' mb L') :
    Calls Try.prog 46 #[.pointer (some ⟨b, 0, none⟩), .int .i64 m, .func (.func 47) #[] #[.pointer (some ⟨p1, 0, none⟩)]] w fun e w' => e = .returned (.tuple #[.agg #[.int .i64 r1, .int .i64 r2], .int .i64 0]) ∧ ∃ sv', SStep w w' b sv sv' mb L' := by
  have KL : Hid (∀ W, Below w.heap.size w W → Calls Try.prog 50 #[.pointer (some ⟨b, 0, none⟩)] W fun e w' => e = .returned (.int .i64 (L.length : Int)) ∧ w' = W) := fun W hW => len_any b sv mb L W (h.bw hW)
  have KF := hide K
  obtain ⟨N, hN⟩ : ∃ N : Int, N = (L.length : Int) := ⟨_, rfl⟩
  rw [← hN] at KL
  obtain ⟨R, hR⟩ : ∃ R : Int, R = 1048576 - N := ⟨_, rfl⟩
  have r0 : (1048576 : Int) - N = R := hR.symm
  have r1' : IntKind.i64.wrap R = R := by rw [IntKind.wrap_i64]; omega
  have r2' : 0 < R := by omega
  have r3 : decide (R < m) = false := decide_eq_false (by omega)
  have r4 : m ≤ R := by omega
  obtain ⟨w0, hw0⟩ : ∃ w0, w0 = w.alloc (.cells #[.int .i64 0, .int .i64 0] 83) := ⟨_, rfl⟩
  have b0 : Below w.heap.size w w0 := by rw [hw0]; exact bwA' _ _
  have k0 : w0.heap[w.heap.size]? = some (.cells #[.int .i64 0, .int .i64 0] 83 (0, 0)) := by rw [hw0]; exact heap_alloc_new _ _
  have K0 := hide (unhide KF w0 b0)
  have KL0 := hide (unhide KL w0 b0)
  have HH := hide (And.intro h (And.intro b0 k0))
  have HW := hide hw0
  clear h hl hN hR K hm hw0 b0 k0 KF KL
  go_enter Try.func46, Try.ntmps46
  go_upto_region 1 with fail
  rw [← unhide HW]
  clear HW
  go_wp2_with fail
  refine (unhide KL0).mono ?_
  rintro e w1 ⟨rfl, rfl⟩
  clear KL0
  go_wp2_with fail
  refine (unhide K0).mono ?_
  rintro e w4 ⟨rfl, sv4, s4⟩
  obtain ⟨h, b0, k0⟩ := unhide HH
  have k4 := kept_fr k0 (h.bw b0) s4.fr (by decide) (by decide)
  have S4 : Hid (SStep w w4 b sv sv4 mb L') := (SStep.same h b0).trans s4
  have g0 : w4.cell? ⟨w.heap.size, 0, none⟩ = some (.int .i64 0) := blk_cell k4 rfl
  have g1 : w4.cell? ⟨w.heap.size, 1, none⟩ = some (.int .i64 0) := blk_cell k4 rfl
  have fz := fun j => blk_froz (i := j) k4
  have K4 := hide k4
  clear s4 K0 r0 r1' r2' r3 r4 HH h b0 k0 k4
  go_wp2
  obtain ⟨V, hV⟩ : ∃ V, V = (w4.setCell ⟨w.heap.size, 0, none⟩ (.int .i64 r1)).setCell ⟨w.heap.size, 1, none⟩ (.int .i64 r2) := ⟨_, rfl⟩
  rw [← hV]
  have kV : V.heap[w.heap.size]? = some (.cells #[.int .i64 r1, .int .i64 r2] 83 (0, 0)) := by
    rw [hV]
    have := poke_blk (i := 1) (poke_blk (i := 0) (unhide K4) (.int .i64 r1)) (.int .i64 r2)
    simpa using this
  have SV : SStep w V b sv sv4 mb L' := by
    rw [hV]
    exact ((unhide S4).poke (unhide K4) (by decide) (by decide) (Nat.le_refl _) _).poke (poke_blk (i := 0) (unhide K4) (.int .i64 r1)) (by decide) (by decide) (Nat.le_refl _) _
  have v0 := blk_cell (i := 0) kV rfl
  have v1 := blk_cell (i := 1) kV rfl
  exact bodyPost_ret (v := .tuple #[.agg #[.int .i64 r1, .int .i64 r2], .int .i64 0]) (by simp [results, Try.results46, go_sem, v0, v1]) rfl ⟨rfl, sv4, SV⟩
end Go.Proofs.Ytokdflbajnecpaa.Tn.Ax
