/- ChainKeys, the walk. -/
import Derived.Test.YtkaioidneknmjaaZ12
import Derived.Test.YtkaioidneknmjaaZ13
namespace Go.Proofs.Ytkaioidneknmjaa.Tn
open Go.RowKit Go.Maps

theorem keyP_rng {L : List Tm} {app snd n : Int} (hG : Good L) (hl : L.length ≤ 2000) (hn : ¬ (300 < n ∧ n ≤ 65536)) : Good (keyP L app snd n).1 ∧ (keyP L app snd n).1.length ≤ 2400 ∧ (keyP L app snd n).2 ≤ (keyP L app snd n).1.length := by
  by_cases hE : keyE L app n = 0
  · have hE' := hE
    unfold keyE at hE'
    split at hE'
    · next q =>
      simp only [Bool.and_eq_true, decide_eq_true_eq] at q
      split at hE'
      · cases hE'
      · next q2 =>
        obtain ⟨m, rfl⟩ : ∃ m : Nat, n = m := ⟨n.toNat, by omega⟩
        obtain ⟨-, h2, h3, h4, h5⟩ := key_is (snd := snd) (n := m) q.1 (by omega) (by omega) hG
        refine ⟨h4, by omega, ?_⟩
        obtain ⟨x, a, -⟩ := h2
        exact a.le.2
    · cases hE'
  · unfold keyP
    rw [if_neg hE]
    exact ⟨hG, by simp only; omega, by simp only; omega⟩
/-- The two stores tell the same numbers. -/
theorem across_same {w W : World} {b : Nat} {sv : Value} {mb rb : Nat} {rv : Value} {L : List Tm} (h : Two w W b sv mb rb rv L L) (hl : L.length ≤ 2400) :
    Calls Try.prog 9 #[.pointer (some ⟨b, 0, none⟩), .pointer (some ⟨rb, 0, none⟩)] W fun e w' => ∃ mp, e = .returned (.tuple #[.pointer (some ⟨mp, 0, none⟩), .bool true]) ∧ Below w.heap.size w w' ∧ ∀ W, Below w'.heap.size w' W → ∀ k : Nat, k ≤ L.length → Calls Try.prog 10 #[.pointer (some ⟨mp, 0, none⟩), .int .i64 (k : Int), .int .i64 (k : Int)] W fun e w' => e = .returned (.bool true) ∧ w' = W := by
  refine (acrossx_any w W b sv mb rb rv L L h (by omega) (by omega)).mono ?_
  rintro e w' ⟨mp, lv, rv', R', ph, h1, hAc, hAr, hpre, hfr⟩
  have hlen := hAr.len
  have hid := hAr.ident hAc.two.st.good hpre
  obtain ⟨g9, cp, rfl, _⟩ := hAc.form (by omega)
  refine ⟨mp, h1, hAc.two.bel, fun W hW k hk => ?_⟩
  have c1 := hAc.at (i := k) (by omega)
  rw [hid k hk] at c1
  refine msame_any mp g9 ph.length cp k W (by omega) (by omega) ?_ ?_
  · rw [hW.cell (lt_of_cell hAc.cells.1)]; exact hAc.cells.1
  · rw [hW.cell (lt_of_cell c1)]; exact c1
set_option maxRecDepth 100000 in
set_option maxHeartbeats 8000000 in
theorem ChainKeys_walk (w : World) (la : Option Addr) (lc : Nat) (l : List Tm) (hl : Tms w (.slice la l.length lc) l) (hok : ∀ t ∈ l, t.ok) (app : Int) (_a1 : -9223372036854775808 ≤ app) (_a2 : app ≤ 9223372036854775807) (snd : Int) (s1 : -9223372036854775808 ≤ snd) (s2 : snd ≤ 9223372036854775807) (n : Int) (n1 : -9223372036854775808 ≤ n) (n2 : n ≤ 9223372036854775807) :
    Calls Try.prog 3 #[.slice la l.length lc, .int .i64 app, .int .i64 snd, .int .i64 n] w fun e w' => e = .returned (.bool true) ∧ Below w.heap.size w w' := by
  clear _a1 _a2
  obtain ⟨M, hM⟩ : ∃ M, M = l.length := ⟨_, rfl⟩
  have hlen := (hl.get).1
  rw [← hM] at hlen hl ⊢
  have hMI : (M : Int) ≤ 140737488355328 := by omega
  by_cases hbig : 2000 < M
  · have hbI : (2000 : Int) < (M : Int) := by omega
    clear hlen hl hok hM s1 s2 n1 n2
    go_enter Try.func3, Try.ntmps3
    go_wp2
    go_ret
    exact ⟨rfl, Below.refl _ _⟩
  have hsm : (M : Int) ≤ 2000 := by omega
  by_cases hmid : 300 < n ∧ n ≤ 65536
  · obtain ⟨h3, h4⟩ := hmid
    have h3' : decide (300 < n) = true := decide_eq_true h3
    have h4' : decide (n ≤ 65536) = true := decide_eq_true h4
    clear hlen hl hok hM s1 s2 n1 n2 hbig
    go_enter Try.func3, Try.ntmps3
    go_wp2
    go_ret
    exact ⟨rfl, Below.refl _ _⟩
  have KB : Hid (Calls Try.prog 6 #[.slice la M lc] w fun e w' => ∃ b sv mb rb rv, e = .returned (.tuple #[.pointer (some ⟨b, 0, none⟩), .pointer (some ⟨rb, 0, none⟩), .bool true]) ∧ Two w w' b sv mb rb rv (fillL [] l) (fillL [] l)) := by
    have := build_any w la lc l (by rw [hM] at hl; exact hl) hok (by omega)
    rw [← hM] at this
    exact this
  obtain ⟨L0, hL0⟩ : ∃ L0, L0 = fillL [] l := ⟨_, rfl⟩
  have hL0l : L0.length ≤ 2000 := by have := fillL_len l []; rw [hL0]; simp at *; omega
  have hL0g : Good L0 := by rw [hL0]; exact fill_good l [] good_nil
  rw [← hL0] at KB
  obtain ⟨r1, r2, r3⟩ := keyP_rng (app := app) (snd := snd) hL0g hL0l hmid
  have K1 : Hid (∀ W b sv mb rb rv, Two w W b sv mb rb rv L0 L0 → Calls Try.prog 7 #[.pointer (some ⟨b, 0, none⟩), .int .i64 app, .int .i64 snd, .int .i64 n] W fun e W' => e = .returned (.tuple #[.int .i64 ((keyP L0 app snd n).2 : Nat), .int .i64 (keyE L0 app n)]) ∧ ∃ sv', Two w W' b sv' mb rb rv (keyP L0 app snd n).1 L0) := fun W b sv mb rb rv tw => by
    refine (key_any tw.st app snd n ⟨s1, s2⟩ (by omega)).mono ?_
    rintro e W' ⟨h1, sv', s⟩
    exact ⟨h1, sv', tw.stepS s⟩
  have K2 : Hid (∀ W b sv mb rb rv, Two w W b sv mb rb rv (keyP L0 app snd n).1 L0 → Calls Try.prog 8 #[.pointer (some ⟨rb, 0, none⟩), .int .i64 app, .int .i64 snd, .int .i64 n] W fun e W' => e = .returned (.tuple #[.int .i64 ((keyP L0 app snd n).2 : Nat), .int .i64 (keyE L0 app n)]) ∧ ∃ rv', Two w W' b sv mb rb rv' (keyP L0 app snd n).1 (keyP L0 app snd n).1) := fun W b sv mb rb rv tw => by
    refine (rkey_any tw.rs app snd n ⟨s1, s2⟩ ⟨n1, n2⟩ (by omega)).mono ?_
    rintro e W' ⟨h1, sv', s⟩
    exact ⟨h1, sv', tw.stepR s⟩
  have KA : Hid (∀ W b sv mb rb rv, Two w W b sv mb rb rv (keyP L0 app snd n).1 (keyP L0 app snd n).1 → _) := fun W b sv mb rb rv tw => across_same tw r2
  have KN : Hid (∀ W, Calls Try.prog 7 #[.pointer none, .int .i64 app, .int .i64 snd, .int .i64 n] W fun e W' => e = .returned (.tuple #[.int .i64 0, .int .i64 2]) ∧ Below W.heap.size W W') := fun W => key_nil app snd n W
  have KE : Hid (∀ W, Below w.heap.size w W → Calls Try.prog 11 #[] W fun e w' => e = .returned (.bool true) ∧ Below w.heap.size w w') := fun W hW => lives11 hW
  obtain ⟨G, hG⟩ : ∃ G : Bool, G = decide (300 < n) := ⟨_, rfl⟩
  have HR := hide r3
  have hmid' : ¬ (300 < n ∧ n ≤ 65536) := hmid
  clear hlen hl hok hM s1 s2 n1 n2 hbig hL0 hL0l hL0g r1 r2 r3 hmid
  generalize keyE L0 app n = EE at *
  generalize (keyP L0 app snd n).1 = L1 at *
  generalize (keyP L0 app snd n).2 = x at *
  by_cases h3 : 300 < n
  all_goals
    have h3' : decide (300 < n) = G := hG.symm
    first
    | have h4' : decide (n ≤ 65536) = false := decide_eq_false (fun c => hmid' ⟨h3, c⟩)
      have h4'' : ¬ n ≤ 65536 := fun c => hmid' ⟨h3, c⟩
      have h3'' : decide (300 < n) = true := decide_eq_true h3
    | have h3'' : decide (300 < n) = false := decide_eq_false h3
    clear hG h3' hmid'
    go_enter Try.func3, Try.ntmps3
    go_wp2_with fail
    refine (unhide KB).mono ?_
    rintro e w1 ⟨b, sv, mb, rb, rv, rfl, T1⟩
    have Q1 := hide (unhide K1 _ _ _ _ _ _ T1)
    clear T1 KB K1
    go_wp2_with fail
    refine (unhide Q1).mono ?_
    rintro e w2 ⟨rfl, sv2, T2⟩
    have Q2 := hide (unhide K2 _ _ _ _ _ _ T2)
    clear T2 Q1 K2
    go_wp2_with fail
    refine (unhide Q2).mono ?_
    rintro e w3 ⟨rfl, rv3, T3⟩
    have Q3 := hide (unhide KA _ _ _ _ _ _ T3)
    clear T3 Q2 KA
    go_wp2_with fail
    refine (unhide Q3).mono ?_
    rintro e w4 ⟨mp, rfl, b4, sm⟩
    have Q4 := hide (unhide KN w4)
    clear Q3 KN
    have B4 := hide b4
    have SM := hide sm
    clear b4 sm
    go_wp2_with fail
    refine (unhide Q4).mono ?_
    rintro e w5 ⟨rfl, b5⟩
    have Q5 := hide (unhide SM w5 b5 x (unhide HR))
    have Q6 := hide (unhide KE w5 (bw_tr (unhide B4) b5))
    clear Q4 SM B4 b5 KE HR
    go_wp2_with fail
    refine (unhide Q5).mono ?_
    rintro e w5 ⟨rfl, rfl⟩
    clear Q5
    go_wp2_with fail
    refine (unhide Q6).mono ?_
    rintro e w6 ⟨rfl, b6⟩
    go_wp2
    go_ret
    exact ⟨rfl, b6⟩
end Go.Proofs.Ytkaioidneknmjaa.Tn
