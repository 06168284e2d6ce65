/- SchedApart, the walk. -/
import Derived.Test.YtcbafeneaoaglaaGreatDoorScK
namespace Go.Proofs.YtcbafeneaoaglaaGreatDoor.Tn
open Go.RowKit Go.Maps

/-- What the law has in its hands. -/
def EA (w W : World) (b mb rb : Nat) (rv : Value) (L R : List Tm) (k1 k2 k3 : Nat) (K1 K2 K3 : Nat → Prop) (fb ab : Nat) (fc ac : Array Value) : Prop :=
  ∃ sv Z1 Z2 Z3, Env w W [resK k1 b L K1 Z1, resS b sv mb L, resK k2 b L K2 Z2, resK k3 b L K3 Z3, resC fb fc 3, resC ab ac 38, resR rb rv R]
theorem EA.bel {w W : World} {b mb rb : Nat} {rv : Value} {L R : List Tm} {k1 k2 k3 : Nat} {K1 K2 K3 : Nat → Prop} {fb ab : Nat} {fc ac : Array Value} (h : EA w W b mb rb rv L R k1 k2 k3 K1 K2 K3 fb ab fc ac) : Below w.heap.size w W := by
  obtain ⟨_, _, _, _, e⟩ := h; exact e.bel
theorem EA.blks {w W : World} {b mb rb : Nat} {rv : Value} {L R : List Tm} {k1 k2 k3 : Nat} {K1 K2 K3 : Nat → Prop} {fb ab : Nat} {fc ac : Array Value} (h : EA w W b mb rb rv L R k1 k2 k3 K1 K2 K3 fb ab fc ac) : W.heap[fb]? = some (.cells fc 3 (0, 0)) ∧ W.heap[ab]? = some (.cells ac 38 (0, 0)) := by
  obtain ⟨_, _, _, _, e⟩ := h
  exact ⟨e.hold (resC fb fc 3) (by simp), e.hold (resC ab ac 38) (by simp)⟩
theorem EA.has1 {w W : World} {b mb rb : Nat} {rv : Value} {L R : List Tm} {k1 k2 k3 : Nat} {K1 K2 K3 : Nat → Prop} {fb ab : Nat} {fc ac : Array Value} (h : EA w W b mb rb rv L R k1 k2 k3 K1 K2 K3 fb ab fc ac) (x : Int) :
    Calls Tryz.prog 21 #[.pointer (some ⟨k1, 0, none⟩), .int .i64 x] W fun e W' => e = .returned (.bool (hasB L K1 x)) ∧ EA w W' b mb rb rv L R k1 k2 k3 K1 K2 K3 fb ab fc ac := by
  obtain ⟨sv, Z1, Z2, Z3, e⟩ := h
  refine (env_has e x).mono ?_
  rintro e' W' ⟨h1, Z', h2⟩
  exact ⟨h1, sv, Z', Z2, Z3, h2⟩
theorem EA.has2 {w W : World} {b mb rb : Nat} {rv : Value} {L R : List Tm} {k1 k2 k3 : Nat} {K1 K2 K3 : Nat → Prop} {fb ab : Nat} {fc ac : Array Value} (h : EA w W b mb rb rv L R k1 k2 k3 K1 K2 K3 fb ab fc ac) (x : Int) :
    Calls Tryz.prog 21 #[.pointer (some ⟨k2, 0, none⟩), .int .i64 x] W fun e W' => e = .returned (.bool (hasB L K2 x)) ∧ EA w W' b mb rb rv L R k1 k2 k3 K1 K2 K3 fb ab fc ac := by
  obtain ⟨sv, Z1, Z2, Z3, e⟩ := h
  refine (env_has e.flip3 x).mono ?_
  rintro e' W' ⟨h1, Z', h2⟩
  exact ⟨h1, sv, Z1, Z', Z3, h2.flip3⟩
theorem EA.has3 {w W : World} {b mb rb : Nat} {rv : Value} {L R : List Tm} {k1 k2 k3 : Nat} {K1 K2 K3 : Nat → Prop} {fb ab : Nat} {fc ac : Array Value} (h : EA w W b mb rb rv L R k1 k2 k3 K1 K2 K3 fb ab fc ac) (x : Int) :
    Calls Tryz.prog 21 #[.pointer (some ⟨k3, 0, none⟩), .int .i64 x] W fun e W' => e = .returned (.bool (hasB L K3 x)) ∧ EA w W' b mb rb rv L R k1 k2 k3 K1 K2 K3 fb ab fc ac := by
  obtain ⟨sv, Z1, Z2, Z3, e⟩ := h
  have hp : ∀ (p q r s : Res) (t : List Res), (p :: q :: r :: s :: t).Perm (s :: q :: r :: p :: t) := fun p q r s t => by
    refine (List.Perm.cons p ?_).trans (((List.Perm.swap s p (q :: r :: t)).trans (List.Perm.cons s ?_)))
    · exact (List.perm_middle (l₁ := [q, r]) (l₂ := t) (a := s))
    · exact (List.perm_middle (l₁ := [q, r]) (l₂ := t) (a := p)).symm
  refine (env_has (e.perm (hp _ _ _ _ _)) x).mono ?_
  rintro e' W' ⟨h1, Z', h2⟩
  exact ⟨h1, sv, Z1, Z2, Z', h2.perm (hp _ _ _ _ _)⟩
theorem ap_ok (n : Int) (h : 0 ≤ n ∧ n ≤ 1152921504606846976) : ∀ t ∈ ap0 n, t.ok := by
  intro t ht
  simp [ap0] at ht
  rcases ht with rfl | rfl | rfl <;> constructor <;> simp <;> omega
theorem ap_tms (w : World) (n n1 n2 : Int) (h1 : n1 = n + 1) (h2 : n2 = n + 2) : Tms (w.alloc (.cells #[.int .u8 1, .int .i64 n, .int .i64 0, .int .i64 0, .int .u8 1, .int .i64 n1, .int .i64 0, .int .i64 0, .int .u8 1, .int .i64 n2, .int .i64 0, .int .i64 0] 54)) (.slice (some ⟨w.heap.size, 0, none⟩) 3 3) (ap0 n) := by
  subst h1; subst h2
  refine ⟨_, 3, rfl, by simp [ap0], Or.inr ⟨w.heap.size, 0, rfl, fun i t hi => ?_⟩⟩
  unfold TAt World.cell?
  simp only [heap_alloc_new]
  match i, hi with
  | 0, hi | 1, hi | 2, hi => simp [ap0] at hi; subst hi; exact ⟨rfl, rfl, rfl, rfl⟩
  | i + 3, hi => simp [ap0] at hi
theorem env_new2 {w W : World} {b : Nat} {sv : Value} {mb : Nat} {L : List Tm} {rs : List Res} (h : Env w W (resS b sv mb L :: rs)) (x y : Int) (hx : thr L.length x = true) (hy : thr L.length y = true) (hl : L.length ≤ 1048576) :
    Calls Tryz.prog 20 #[.pointer (some ⟨b, 0, none⟩), .slice (some ⟨W.heap.size, 0, none⟩) 2 2] (W.alloc (.cells #[.int .i64 x, .int .i64 y] 3)) fun e W' => ∃ kb, e = .returned (.tuple #[.pointer (some ⟨kb, 0, none⟩), .int .i64 0]) ∧ ∃ Z, Env w W' (resK kb b L (fun m => (m : Int) ∈ [x, y]) Z :: resS b sv mb L :: rs) := by
  have rx := thr_rng hx hl
  have ry := thr_rng hy hl
  refine (env_new (h.new (bwA' _ _)) (some ⟨W.heap.size, 0, none⟩) 2 [x, y] (nis_two W x y 3 (by omega) (by omega)) (by simp)).mono ?_
  rintro e W' ⟨p, h1, h2⟩
  have he : newE L [x, y] = 0 := newE_ok (by intro z hz; simp at hz; rcases hz with rfl | rfl; exact hx; exact hy)
  rw [he] at h1 h2
  rcases h2 with ⟨c, _⟩ | ⟨_, kb, Z, rfl, h3⟩
  · cases c
  · exact ⟨kb, h1, Z, h3⟩

set_option maxRecDepth 100000 in
set_option maxHeartbeats 8000000 in
theorem SchedApart_walk (w : World) (hT : Tab w) (n wh : Int) (hn : -9223372036854775808 ≤ n ∧ n ≤ 9223372036854775807) (hw : -9223372036854775808 ≤ wh ∧ wh ≤ 9223372036854775807) :
    Calls Tryz.prog 4 #[.int .i64 n, .int .i64 wh] w fun e w' => e = .returned (.bool true) ∧ Below w.heap.size w w' := by
  by_cases g1 : n < 0
  · go_enter Tryz.func4, Tryz.ntmps4
    go_wp2
    go_ret
    exact ⟨rfl, Below.refl _ _⟩
  have g1' : 0 ≤ n := by omega
  by_cases g2 : 1152921504606846976 < n
  · go_enter Tryz.func4, Tryz.ntmps4
    go_wp2
    go_ret
    exact ⟨rfl, Below.refl _ _⟩
  have g2' : n ≤ 1152921504606846976 := by omega
  by_cases g3 : wh < 0
  · go_enter Tryz.func4, Tryz.ntmps4
    go_wp2
    go_ret
    exact ⟨rfl, Below.refl _ _⟩
  by_cases g4 : 3 < wh
  · go_enter Tryz.func4, Tryz.ntmps4
    go_wp2
    go_ret
    exact ⟨rfl, Below.refl _ _⟩
  obtain ⟨j, rfl⟩ : ∃ j : Nat, wh = j := ⟨wh.toNat, by omega⟩
  have hj : j < 4 := by omega
  have hjI : (j : Int) < 4 := by omega
  have KE : Hid (∀ W, Below w.heap.size w W → Calls Tryz.prog 19 #[] W fun e w' => e = .returned (.bool true) ∧ Below w.heap.size w w') := fun W hW => lives10 hT hW
  obtain ⟨n1, hn1⟩ : ∃ n1 : Int, n1 = n + 1 := ⟨_, rfl⟩
  obtain ⟨n2, hn2⟩ : ∃ n2 : Int, n2 = n + 2 := ⟨_, rfl⟩
  have r1 : IntKind.i64.wrap (n + 1) = n1 := by rw [IntKind.wrap_i64]; omega
  have r2 : IntKind.i64.wrap (n + 2) = n2 := by rw [IntKind.wrap_i64]; omega
  have r3 : n + 1 = n1 := hn1.symm
  have r4 : n + 2 = n2 := hn2.symm
  obtain ⟨W0, hW0⟩ : ∃ W0, W0 = w.alloc (.cells #[.int .u8 1, .int .i64 n, .int .i64 0, .int .i64 0, .int .u8 1, .int .i64 n1, .int .i64 0, .int .i64 0, .int .u8 1, .int .i64 n2, .int .i64 0, .int .i64 0] 54) := ⟨_, rfl⟩
  have KB := build_any W0 (some ⟨w.heap.size, 0, none⟩) 3 (ap0 n) (by rw [hW0]; exact ap_tms w n n1 n2 hn1 hn2) (ap_ok n (by omega)) (by simp [ap0])
  rw [ap_fill n g1'] at KB
  have x0 : Below w.heap.size w W0 := by rw [hW0]; exact bwA' _ _
  have KB2 : Hid (Calls Tryz.prog 7 #[.slice (some ⟨w.heap.size, 0, none⟩) 3 3] W0 fun e w' => ∃ b sv mb rb rv, e = .returned (.tuple #[.pointer (some ⟨b, 0, none⟩), .pointer (some ⟨rb, 0, none⟩), .bool true]) ∧ Env w w' [resS b sv mb (ap0 n), resR rb rv (ap0 n)]) := KB.mono (fun e w' hh => by
    obtain ⟨b, sv, mb, rb, rv, h1, tw⟩ := hh
    refine ⟨b, sv, mb, rb, rv, h1, ?_⟩
    have hs := x0.size
    exact Env.ofTwo ⟨tw.st, tw.rs, fun x hx => Nat.le_trans hs (tw.low x hx), fun x hx => Nat.le_trans hs (tw.rlow x hx), tw.dis, bw_tr x0 tw.bel⟩)
  have HW := hide hW0
  have w1 : (n : Int) ≤ 1152921504606846976 := g2'
  clear KB hW0 x0 hn1 hn2 hn hw hT
  go_enter Tryz.func4, Tryz.ntmps4
  go_wp2_with fail
  rw [← unhide HW]
  refine (unhide KB2).mono ?_
  rintro e W1 ⟨b, sv, mb, rb, rv, rfl, E1⟩
  have KX := env_next E1 1 2 3 (by simp [ap0])
  rw [(ap_next n).1, (ap_next n).2.1, (ap_next n).2.2, secA6] at KX
  have HX := hide KX
  clear KX E1 KB2 HW r1 r2 r3 r4
  go_wp2_with fail
  refine (unhide HX).mono ?_
  rintro e W2 ⟨rfl, sv2, E2⟩
  obtain ⟨W3, hW3⟩ : ∃ W3, W3 = W2.alloc (.cells #[.int .i64 5, .int .i64 6, .int .i64 7, .int .i64 8, .int .i64 9, .int .i64 10] 38) := ⟨_, rfl⟩
  obtain ⟨ab, hab⟩ : ∃ ab, ab = W2.heap.size := ⟨_, rfl⟩
  have E3 : Env w W3 [resC ab #[.int .i64 5, .int .i64 6, .int .i64 7, .int .i64 8, .int .i64 9, .int .i64 10] 38, resS b sv2 mb (ap n), resR rb rv (ap0 n)] := by
    have hb : Below W2.heap.size W2 W3 := by rw [hW3]; exact bwA' _ _
    refine E2.add (resC ab _ 38) hb ?_ ?_
    · show W3.heap[ab]? = _
      rw [hW3, hab]; exact heap_alloc_new _ _
    · intro x hx; simp [resC] at hx; omega
  have c3 : W3.heap[ab]? = some (.cells #[.int .i64 5, .int .i64 6, .int .i64 7, .int .i64 8, .int .i64 9, .int .i64 10] 38 (0, 0)) := E3.hd
  have q1 := blk_cell (i := 1) c3 rfl
  have q2 := blk_cell (i := 2) c3 rfl
  have q3 := blk_cell (i := 3) c3 rfl
  have q4 := blk_cell (i := 4) c3 rfl
  have q5 := blk_cell (i := 5) c3 rfl
  have HW3 := hide hW3
  have HAB := hide hab
  have HE3 := hide E3
  clear E3 E2 HX hW3 hab c3
  go_upto_region 7 with fail
  rw [← unhide HAB, ← unhide HW3]
  clear HW3 HAB
  go_upto_region 8 with fail
  obtain ⟨W4, hW4⟩ : ∃ W4, W4 = W3.alloc (.cells #[.int .i64 7, .int .i64 8, .int .i64 9, .int .i64 10] 3) := ⟨_, rfl⟩
  obtain ⟨fb, hfb⟩ : ∃ fb, fb = W3.heap.size := ⟨_, rfl⟩
  have E4 : Env w W4 [resC fb #[.int .i64 7, .int .i64 8, .int .i64 9, .int .i64 10] 3, resC ab #[.int .i64 5, .int .i64 6, .int .i64 7, .int .i64 8, .int .i64 9, .int .i64 10] 38, resS b sv2 mb (ap n), resR rb rv (ap0 n)] := by
    have hb : Below W3.heap.size W3 W4 := by rw [hW4]; exact bwA' _ _
    refine (unhide HE3).add (resC fb _ 3) hb ?_ ?_
    · show W4.heap[fb]? = _
      rw [hW4, hfb]; exact heap_alloc_new _ _
    · intro x hx; simp [resC] at hx; omega
  have E4' : Env w W4 (resS b sv2 mb (ap n) :: [resC fb #[.int .i64 7, .int .i64 8, .int .i64 9, .int .i64 10] 3, resC ab #[.int .i64 5, .int .i64 6, .int .i64 7, .int .i64 8, .int .i64 9, .int .i64 10] 38, resR rb rv (ap0 n)]) := E4.rot3
  have f4 : W4.heap[fb]? = some (.cells #[.int .i64 7, .int .i64 8, .int .i64 9, .int .i64 10] 3 (0, 0)) := E4.hd
  have cj : W4.cell? ⟨fb, j, none⟩ = some (.int .i64 (7 + (j : Int))) := by
    match j, hj with
    | 0, _ | 1, _ | 2, _ | 3, _ => exact blk_cell f4 rfl
  have K1 := hide (env_new2 E4' (7 + (j : Int)) 3 (thr_iff.2 (by rw [ap_len]; omega)) (thr_iff.2 (by rw [ap_len]; omega)) (by rw [ap_len]; omega))
  rw [← hW4, ← hfb]
  clear E4 E4' HE3 hW4 hfb q1 q2 q3 q4 q5 f4
  go_wp2_with fail
  refine (unhide K1).mono ?_
  rintro e W5 ⟨k1, rfl, Z1, E5⟩
  have c5 : W5.heap[ab]? = some (.cells #[.int .i64 5, .int .i64 6, .int .i64 7, .int .i64 8, .int .i64 9, .int .i64 10] 38 (0, 0)) := E5.hold (resC ab _ 38) (by simp)
  have d5 := blk_cell (i := 1) c5 rfl
  have K2 := hide (env_new2 E5.swap 6 3 (thr_iff.2 (by rw [ap_len]; omega)) (thr_iff.2 (by rw [ap_len]; omega)) (by rw [ap_len]; omega))
  clear K1 c5 E5 cj
  go_wp2_with fail
  refine (unhide K2).mono ?_
  rintro e W6 ⟨k2, rfl, Z2, E6⟩
  have K3 := hide (env_new2 E6.swap 1 3 (thr_iff.2 (by rw [ap_len]; omega)) (thr_iff.2 (by rw [ap_len]; omega)) (by rw [ap_len]; omega))
  clear K2 E6 d5
  go_wp2_with fail
  refine (unhide K3).mono ?_
  rintro e W7 ⟨k3, rfl, Z3, E7⟩
  obtain ⟨Q, hQ⟩ : ∃ Q : World → Prop, Q = fun W => EA w W b mb rb rv (ap n) (ap0 n) k1 k2 k3 (fun m => (m : Int) ∈ [7 + (j : Int), 3]) (fun m => (m : Int) ∈ [6, 3]) (fun m => (m : Int) ∈ [1, 3]) fb ab #[.int .i64 7, .int .i64 8, .int .i64 9, .int .i64 10] #[.int .i64 5, .int .i64 6, .int .i64 7, .int .i64 8, .int .i64 9, .int .i64 10] := ⟨_, rfl⟩
  have A7 : Hid (Q W7) := by
    rw [hQ]
    refine ⟨sv2, Z1, Z2, Z3, ?_⟩
    have hp : ∀ (a b c d : Res) (t : List Res), (a :: b :: c :: d :: t).Perm (d :: b :: c :: a :: t) := fun p q r s t => by
      refine (List.Perm.cons p ?_).trans (((List.Perm.swap s p (q :: r :: t)).trans (List.Perm.cons s ?_)))
      · exact (List.perm_middle (l₁ := [q, r]) (l₂ := t) (a := s))
      · exact (List.perm_middle (l₁ := [q, r]) (l₂ := t) (a := p)).symm
    have h8 := E7.perm (hp _ _ _ _ _)
    exact h8
  have KH1 : ∀ W (m : Nat), Q W → Calls Tryz.prog 21 #[.pointer (some ⟨k1, 0, none⟩), .int .i64 (m : Int)] W fun e W' => e = .returned (.bool (decide (m = 7 + j ∨ m = 3))) ∧ Q W' := fun W m h => by
    rw [hQ] at h ⊢
    have := EA.has1 h (m : Int)
    rw [ap_one n j hj m] at this
    exact this
  have KH2 : ∀ W (m : Nat), m ≤ 10 → Q W → Calls Tryz.prog 21 #[.pointer (some ⟨k2, 0, none⟩), .int .i64 (m : Int)] W fun e W' => e = .returned (.bool (decide (m = 3 ∨ 6 ≤ m))) ∧ Q W' := fun W m hm h => by
    rw [hQ] at h ⊢
    have := EA.has2 h (m : Int)
    rw [ap_all n m hm] at this
    exact this
  have KH3 : ∀ W (m : Nat), Q W → Calls Tryz.prog 21 #[.pointer (some ⟨k3, 0, none⟩), .int .i64 (m : Int)] W fun e W' => e = .returned (.bool (decide (m = 1 ∨ m = 3))) ∧ Q W' := fun W m h => by
    rw [hQ] at h ⊢
    have := EA.has3 h (m : Int)
    rw [ap_old n m] at this
    exact this
  have HBL : Hid (∀ W, Q W → Below w.heap.size w W ∧ (∀ i : Nat, i < 4 → W.cell? ⟨fb, i, none⟩ = some (.int .i64 (7 + (i : Int)))) ∧ W.cell? ⟨ab, 0, none⟩ = some (.int .i64 5) ∧ W.cell? ⟨ab, 1, none⟩ = some (.int .i64 6)) := fun W h => by
    rw [hQ] at h
    have h1 := EA.bel h
    obtain ⟨h2, h3⟩ := EA.blks h
    refine ⟨h1, fun i hi => ?_, blk_cell h3 rfl, blk_cell h3 rfl⟩
    match i, hi with
    | 0, _ | 1, _ | 2, _ | 3, _ => exact blk_cell h2 rfl
  have C1 : Hid (∀ W, Q W → Calls Tryz.prog 21 #[.pointer (some ⟨k1, 0, none⟩), .int .i64 6] W fun e W' => e = .returned (.bool false) ∧ Q W') := fun W h => by
    have := KH1 W 6 h
    rw [decide_eq_false (by omega)] at this
    exact this
  have C2 : Hid (∀ W, Q W → Calls Tryz.prog 21 #[.pointer (some ⟨k1, 0, none⟩), .int .i64 5] W fun e W' => e = .returned (.bool false) ∧ Q W') := fun W h => by
    have := KH1 W 5 h
    rw [decide_eq_false (by omega)] at this
    exact this
  have C3 : Hid (∀ W, Q W → Calls Tryz.prog 21 #[.pointer (some ⟨k2, 0, none⟩), .int .i64 5] W fun e W' => e = .returned (.bool false) ∧ Q W') := fun W h => by
    have := KH2 W 5 (by omega) h
    rw [decide_eq_false (by omega)] at this
    exact this
  have C4 : Hid (∀ W, Q W → Calls Tryz.prog 21 #[.pointer (some ⟨k3, 0, none⟩), .int .i64 5] W fun e W' => e = .returned (.bool false) ∧ Q W') := fun W h => by
    have := KH3 W 5 h
    rw [decide_eq_false (by omega)] at this
    exact this
  have C5 : Hid (∀ W, Q W → Calls Tryz.prog 21 #[.pointer (some ⟨k3, 0, none⟩), .int .i64 6] W fun e W' => e = .returned (.bool false) ∧ Q W') := fun W h => by
    have := KH3 W 6 h
    rw [decide_eq_false (by omega)] at this
    exact this
  have D1 : Hid (∀ W (i : Nat), Q W → Calls Tryz.prog 21 #[.pointer (some ⟨k1, 0, none⟩), .int .i64 (7 + (i : Int))] W fun e W' => e = .returned (.bool (decide (i = j))) ∧ Q W') := fun W i h => by
    have := KH1 W (7 + i) h
    rw [show ((7 + i : Nat) : Int) = 7 + (i : Int) by omega, show decide (7 + i = 7 + j ∨ 7 + i = 3) = decide (i = j) by rw [decide_eq_decide]; omega] at this
    exact this
  have D2 : Hid (∀ W (i : Nat), i < 4 → Q W → Calls Tryz.prog 21 #[.pointer (some ⟨k2, 0, none⟩), .int .i64 (7 + (i : Int))] W fun e W' => e = .returned (.bool true) ∧ Q W') := fun W i hi h => by
    have := KH2 W (7 + i) (by omega) h
    rw [show ((7 + i : Nat) : Int) = 7 + (i : Int) by omega, decide_eq_true (by omega)] at this
    exact this
  have D3 : Hid (∀ W (i : Nat), Q W → Calls Tryz.prog 21 #[.pointer (some ⟨k3, 0, none⟩), .int .i64 (7 + (i : Int))] W fun e W' => e = .returned (.bool false) ∧ Q W') := fun W i h => by
    have := KH3 W (7 + i) h
    rw [show ((7 + i : Nat) : Int) = 7 + (i : Int) by omega, decide_eq_false (by omega)] at this
    exact this
  clear K3 E7 KH1 KH2 KH3 hQ g1 g2 g3 g4
  obtain ⟨-, -, e0, e1⟩ := unhide HBL _ (unhide A7)
  go_wp2_with fail
  refine (unhide C1 _ (unhide A7)).mono ?_
  rintro e V0 ⟨rfl, a⟩
  have AV0 := hide a
  clear a e0 e1 A7 C1
  obtain ⟨-, -, e0, e1⟩ := unhide HBL _ (unhide AV0)
  go_wp2_with fail
  refine (unhide C2 _ (unhide AV0)).mono ?_
  rintro e V1 ⟨rfl, a⟩
  have AV1 := hide a
  clear a e0 e1 AV0 C2
  obtain ⟨-, -, e0, e1⟩ := unhide HBL _ (unhide AV1)
  go_wp2_with fail
  refine (unhide C3 _ (unhide AV1)).mono ?_
  rintro e V2 ⟨rfl, a⟩
  have AV2 := hide a
  clear a e0 e1 AV1 C3
  obtain ⟨-, -, e0, e1⟩ := unhide HBL _ (unhide AV2)
  go_wp2_with fail
  refine (unhide C4 _ (unhide AV2)).mono ?_
  rintro e V3 ⟨rfl, a⟩
  have AV3 := hide a
  clear a e0 e1 AV2 C4
  obtain ⟨-, -, e0, e1⟩ := unhide HBL _ (unhide AV3)
  go_wp2_with fail
  refine (unhide C5 _ (unhide AV3)).mono ?_
  rintro e V4 ⟨rfl, a⟩
  have AV4 := hide a
  clear a e0 e1 AV3 C5
  go_wp2_with fail
  go_loopw [17] (fun iv wr => ∃ i : Nat, i ≤ 4 ∧ iv = .int .i64 (i : Int) ∧ Hid (Q wr)) (fun iv _ => (4 - intOf iv).toNat)
  case atStart => exact ⟨0, by omega, rfl, AV4⟩
  case round =>
    obtain ⟨i, hi, rfl, HQ⟩ := hrel
    by_cases hlt : i < 4
    · have hltI : (i : Int) < 4 := by omega
      have K1 := unhide D1 _ i (unhide HQ)
      by_cases hij : i = j
      · subst hij
        rw [decide_eq_true rfl] at K1
        have HK1 := hide K1
        have z0 := (unhide HBL _ (unhide HQ)).2.1 i hlt
        clear K1 HQ
        go_wp2_with fail
        refine (unhide HK1).mono ?_
        rintro e X1 ⟨rfl, a⟩
        have HK2 := hide (unhide D2 _ i hlt a)
        have z1 := (unhide HBL _ a).2.1 i hlt
        clear a HK1 z0
        go_wp2_with fail
        refine (unhide HK2).mono ?_
        rintro e X2 ⟨rfl, a⟩
        have HK3 := hide (unhide D3 _ i a)
        have z2 := (unhide HBL _ a).2.1 i hlt
        clear a HK2 z1
        go_wp2_with fail
        refine (unhide HK3).mono ?_
        rintro e X3 ⟨rfl, a⟩
        have HA := hide a
        clear a HK3 z2
        go_wp2_with fail
        go_roundw
        case rel => exact ⟨i + 1, by omega, by go_num, HA⟩
        case measure => simp only [intOf]; omega
      · rw [decide_eq_false hij] at K1
        have HK1 := hide K1
        have z0 := (unhide HBL _ (unhide HQ)).2.1 i hlt
        have y0 : decide ((i : Int) = (j : Int)) = false := decide_eq_false (by omega)
        have y1 : ((i : Int) == (j : Int)) = false := by simp; omega
        clear K1 HQ
        go_wp2_with fail
        refine (unhide HK1).mono ?_
        rintro e X1 ⟨rfl, a⟩
        have HK2 := hide (unhide D2 _ i hlt a)
        have z1 := (unhide HBL _ a).2.1 i hlt
        clear a HK1 z0
        go_wp2_with fail
        refine (unhide HK2).mono ?_
        rintro e X2 ⟨rfl, a⟩
        have HK3 := hide (unhide D3 _ i a)
        have z2 := (unhide HBL _ a).2.1 i hlt
        clear a HK2 z1
        go_wp2_with fail
        refine (unhide HK3).mono ?_
        rintro e X3 ⟨rfl, a⟩
        have HA := hide a
        clear a HK3 z2
        go_wp2_with fail
        go_roundw
        case rel => exact ⟨i + 1, by omega, by go_num, HA⟩
        case measure => simp only [intOf]; omega
    · have KL := hide (unhide KE _ (unhide HBL _ (unhide HQ)).1)
      clear HQ
      go_wp2_with fail
      refine (unhide KL).mono ?_
      rintro e X9 ⟨rfl, hb9⟩
      go_wp2
      go_ret
      exact ⟨rfl, hb9⟩
end Go.Proofs.YtcbafeneaoaglaaGreatDoor.Tn
