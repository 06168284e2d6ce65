/- ChainApart, the walk. -/
import Derived.Test.YtkaioidneknmjaaChK
namespace Go.Proofs.Ytkaioidneknmjaa.Tn
open Go.RowKit Go.Maps

theorem lvL_good (n : Int) (hn : 0 ≤ n) : Good (lvL n) := by have := fill_good (lvL n) [] good_nil; rw [lvL_fill n hn] at this; exact this
set_option maxRecDepth 100000 in
set_option maxHeartbeats 8000000 in
theorem ChainApart_walk (w : World) (a : Int) (ha1 : -9223372036854775808 ≤ a) (ha2 : a ≤ 9223372036854775807) (n : Int) (_n1 : -9223372036854775808 ≤ n) (_n2 : n ≤ 9223372036854775807) (b : Int) (hb1 : -9223372036854775808 ≤ b) (hb2 : b ≤ 9223372036854775807) (m : Int) (_m1 : -9223372036854775808 ≤ m) (_m2 : m ≤ 9223372036854775807) :
    Calls Try.prog 5 #[.int .i64 a, .int .i64 n, .int .i64 b, .int .i64 m] w fun e w' => e = .returned (.bool true) ∧ Below w.heap.size w w' := by
  clear _n1 _n2 _m1 _m2
  obtain ⟨G, hG⟩ : ∃ G : Bool, G = (decide (n < 0) || decide (m < 0) || decide (100 < n) || decide (100 < m)) := ⟨_, rfl⟩
  by_cases n0 : n < 0
  · have n0' : decide (n < 0) = true := decide_eq_true n0
    clear hG ha1 ha2 hb1 hb2
    go_enter Try.func5, Try.ntmps5
    go_wp2
    go_ret
    exact ⟨rfl, Below.refl _ _⟩
  have n0' : decide (n < 0) = false := decide_eq_false n0
  by_cases m0 : m < 0
  · have m0' : decide (m < 0) = true := decide_eq_true m0
    clear hG ha1 ha2 hb1 hb2
    go_enter Try.func5, Try.ntmps5
    go_wp2
    go_ret
    exact ⟨rfl, Below.refl _ _⟩
  have m0' : decide (m < 0) = false := decide_eq_false m0
  by_cases n9 : 100 < n
  · have n9' : decide (100 < n) = true := decide_eq_true n9
    clear hG ha1 ha2 hb1 hb2
    go_enter Try.func5, Try.ntmps5
    go_wp2
    go_ret
    exact ⟨rfl, Below.refl _ _⟩
  have n9' : decide (100 < n) = false := decide_eq_false n9
  by_cases m9 : 100 < m
  · have m9' : decide (100 < m) = true := decide_eq_true m9
    clear hG ha1 ha2 hb1 hb2
    go_enter Try.func5, Try.ntmps5
    go_wp2
    go_ret
    exact ⟨rfl, Below.refl _ _⟩
  have m9' : decide (100 < m) = false := decide_eq_false m9
  obtain ⟨n, rfl⟩ : ∃ k : Nat, n = k := ⟨n.toNat, by omega⟩
  obtain ⟨m, rfl⟩ : ∃ k : Nat, m = k := ⟨m.toNat, by omega⟩
  have g0 := lvL_good 0 (by omega)
  have t0 : thr (lvL 0).length 1 = true := by decide
  obtain ⟨e1, i1, p1, g1, l1⟩ := key_is (snd := a) (n := n) t0 (by omega) (by decide) g0
  have k0 : (lvL 0).length = 1 := rfl
  obtain ⟨e2, i2, p2, g2, l2⟩ := key_is (snd := b) (n := m) (thr_mono t0 p1.len) (by omega) (by omega) g1
  obtain ⟨e3, i3, p3, g3, l3⟩ := key_is (snd := a) (n := n) (thr_mono t0 (p1.trans p2).len) (by omega) (by omega) g2
  have K1 : Hid (∀ W b sv mb rs, Env w W (resS b sv mb (lvL 0) :: rs) → Calls Try.prog 7 #[.pointer (some ⟨b, 0, none⟩), .int .i64 1, .int .i64 a, .int .i64 (n : Int)] W fun e W' => e = .returned (.tuple #[.int .i64 ((keyP (lvL 0) 1 a n).2 : Nat), .int .i64 0]) ∧ ∃ sv', Env w W' (resS b sv' mb (keyP (lvL 0) 1 a n).1 :: rs)) := fun W b sv mb rs h => by
    have := env_key h 1 a n ⟨ha1, ha2⟩ (by decide)
    rw [e1] at this
    exact this
  have K2 : Hid (∀ W c sv mb rs, Env w W (resS c sv mb (keyP (lvL 0) 1 a n).1 :: rs) → Calls Try.prog 7 #[.pointer (some ⟨c, 0, none⟩), .int .i64 1, .int .i64 b, .int .i64 (m : Int)] W fun e W' => e = .returned (.tuple #[.int .i64 ((keyP (keyP (lvL 0) 1 a n).1 1 b m).2 : Nat), .int .i64 0]) ∧ ∃ sv', Env w W' (resS c sv' mb (keyP (keyP (lvL 0) 1 a n).1 1 b m).1 :: rs)) := fun W c sv mb rs h => by
    have := env_key h 1 b m ⟨hb1, hb2⟩ (by omega)
    rw [e2] at this
    exact this
  have K3 : Hid (∀ W c sv mb rs, Env w W (resS c sv mb (keyP (keyP (lvL 0) 1 a n).1 1 b m).1 :: rs) → Calls Try.prog 7 #[.pointer (some ⟨c, 0, none⟩), .int .i64 1, .int .i64 a, .int .i64 (n : Int)] W fun e W' => e = .returned (.tuple #[.int .i64 ((keyP (keyP (keyP (lvL 0) 1 a n).1 1 b m).1 1 a n).2 : Nat), .int .i64 0]) ∧ ∃ sv', Env w W' (resS c sv' mb (keyP (keyP (keyP (lvL 0) 1 a n).1 1 b m).1 1 a n).1 :: rs)) := fun W c sv mb rs h => by
    have := env_key h 1 a n ⟨ha1, ha2⟩ (by omega)
    rw [e3] at this
    exact this
  have x1 : (keyP (lvL 0) 1 a n).2 = (keyP (keyP (keyP (lvL 0) 1 a n).1 1 b m).1 1 a n).2 := ((i1.pre (p2.trans p3)).eq_iff g3 i3).2 ⟨rfl, rfl⟩
  have x2 := (i1.pre p2).eq_iff g2 i2
  rw [← x1] at K3
  obtain ⟨x, hx⟩ : ∃ x : Nat, x = (keyP (lvL 0) 1 a n).2 := ⟨_, rfl⟩
  obtain ⟨y, hy⟩ : ∃ y : Nat, y = (keyP (keyP (lvL 0) 1 a n).1 1 b m).2 := ⟨_, rfl⟩
  rw [← hx] at K1 K3 x2
  rw [← hy] at K2 x2
  have KB := hide (build1 w 0 (by omega) (by omega))
  have KE : Hid (∀ W, Below w.heap.size w W → Calls Try.prog 11 #[] W fun e w' => e = .returned (.bool true) ∧ Below w.heap.size w w') := fun W hW => lives11 hW
  have HX2 := hide x2
  clear x1 hx hy e1 e2 e3 i1 i2 i3 p1 p2 p3 g1 g2 g3 l1 l2 l3 t0 g0 k0 ha1 ha2 hb1 hb2 hG x2
  generalize (keyP (keyP (keyP (lvL 0) 1 a n).1 1 b m).1 1 a n).1 = L3 at *
  generalize (keyP (keyP (lvL 0) 1 a n).1 1 b m).1 = L2 at *
  generalize (keyP (lvL 0) 1 a n).1 = L1 at *
  go_enter Try.func5, Try.ntmps5
  go_wp2_with fail
  refine (unhide KB).mono ?_
  rintro e w1 ⟨sb, sv, mb, rb, rv, rfl, E1⟩
  have Q1 := hide (unhide K1 _ _ _ _ _ E1)
  clear E1 KB K1
  go_wp2_with fail
  refine (unhide Q1).mono ?_
  rintro e w2 ⟨rfl, sv2, E2⟩
  have Q2 := hide (unhide K2 _ _ _ _ _ E2)
  clear E2 Q1 K2
  go_wp2_with fail
  refine (unhide Q2).mono ?_
  rintro e w3 ⟨rfl, sv3, E3⟩
  have Q3 := hide (unhide K3 _ _ _ _ _ E3)
  clear E3 Q2 K3
  go_wp2_with fail
  refine (unhide Q3).mono ?_
  rintro e w4 ⟨rfl, sv4, E4⟩
  have Q4 := hide (unhide KE _ E4.bel)
  clear E4 Q3 KE
  by_cases hxy : x = y
  · obtain ⟨rfl, rfl⟩ := (unhide HX2).1 hxy
    subst hxy
    clear HX2
    go_wp2_with fail
    refine (unhide Q4).mono ?_
    rintro e w5 ⟨rfl, b5⟩
    go_wp2
    go_ret
    exact ⟨rfl, b5⟩
  · have hxI : decide ((x : Int) = (y : Int)) = false := decide_eq_false (by omega)
    have hxI2 : ((x : Int) == (y : Int)) = false := by simp; omega
    by_cases hab : a = b
    · subst hab
      have hnm : n ≠ m := fun c => hxy ((unhide HX2).2 ⟨rfl, c⟩)
      have hnI : decide ((n : Int) = (m : Int)) = false := decide_eq_false (by omega)
      have hnI2 : ((n : Int) == (m : Int)) = false := by simp; omega
      clear HX2 hnm hxy
      go_wp2_with fail
      refine (unhide Q4).mono ?_
      rintro e w5 ⟨rfl, b5⟩
      go_wp2
      go_ret
      exact ⟨rfl, b5⟩
    · have haI : decide (a = b) = false := decide_eq_false hab
      have haI2 : (a == b) = false := by simp; exact hab
      clear HX2 hxy hab
      go_wp2_with fail
      refine (unhide Q4).mono ?_
      rintro e w5 ⟨rfl, b5⟩
      go_wp2
      go_ret
      exact ⟨rfl, b5⟩
end Go.Proofs.Ytkaioidneknmjaa.Tn
