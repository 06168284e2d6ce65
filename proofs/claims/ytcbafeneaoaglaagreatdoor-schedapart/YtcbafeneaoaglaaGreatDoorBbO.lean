/- Texts joined: IxRefB IxRefC. -/
import Derived.Test.YtcbafeneaoaglaaGreatDoorIxRef
import Derived.Test.YtcbafeneaoaglaaGreatDoorIxKin
import Derived.Test.YtcbafeneaoaglaaGreatDoorIxList
/- Contracts of the document's own answers for layer 2: children and leaves. -/
namespace Go.Proofs.YtcbafeneaoaglaaGreatDoor
open Go.RowKit

theorem hf_cases (x : Int) (h2 : x ≤ 9223372036854775807) : (lvl x ≤ 0 ∧ hf x = 0) ∨ (∃ k m : Nat, x = (nd (k + 1) m : Nat) ∧ nd (k + 1) m < 9223372036854775808 ∧ 0 < lvl x ∧ hf x = ((2 ^ k : Nat) : Int) ∧ lvl x = ((k + 1 : Nat) : Int)) := by
  rcases lvl_cases x h2 with ⟨h, hl⟩ | ⟨m, rfl, hb, hl⟩ | ⟨k, m, rfl, hb, hl⟩
  · exact Or.inl ⟨by omega, if_neg (by omega)⟩
  · exact Or.inl ⟨by omega, if_neg (by omega)⟩
  · exact Or.inr ⟨k, m, rfl, hb, by omega, by unfold hf; rw [if_pos (by rw [hl]; omega), hl, Int.toNat_natCast, Nat.add_sub_cancel], hl⟩

set_option maxHeartbeats 1000000 in
theorem rleft_any (x : Int) (w : World) (h2 : x ≤ 9223372036854775807) :
    Calls Tryz.prog 109 #[.int .i64 x] w fun e w' => e = .returned (.tuple #[.int .i64 (lfV x), .bool (lfB x)]) ∧ w' = w := by
  have K := rhalf_any x w h2
  rcases hf_cases x h2 with ⟨hl, hh⟩ | ⟨k, m, rfl, hb, hl, hh, _⟩
  · have h0 : ¬ 0 < lvl x := by omega
    simp only [lfV, lfB, h0, if_false, decide_false]
    rw [hh] at K
    clear hh hl h0
    go_enter Tryz.func109, Tryz.ntmps109
    go_wp2_with fail
    refine (K).mono ?_
    rintro e w ⟨rfl, rfl⟩
    go_wp2
    go_ret2
    exact ⟨rfl, rfl⟩
  · simp only [lfV, lfB, hl, if_true, decide_true]
    rw [hh] at K
    rw [hh]
    have hpos := Nat.two_pow_pos k
    have e := nd_succ (k + 1) m
    have hle : 2 ^ k ≤ 2 ^ (k + 1) * (2 * m + 1) := by
      rw [Nat.pow_succ]; exact Nat.le_trans (Nat.le_mul_of_pos_right _ (by decide)) (Nat.le_mul_of_pos_right _ (by omega))
    rw [← e] at hle
    clear hh hl e
    generalize 2 ^ k = p at *
    generalize nd (k + 1) m = X at *
    have hw : wrap64 ((X : Int) - (p : Int)) = (X : Int) - (p : Int) := wrap64_id (by omega) (by omega)
    have h0 : ((p : Int) == 0) = false := by rw [beq_eq_false_iff_ne]; omega
    go_enter Tryz.func109, Tryz.ntmps109
    go_wp2_with fail
    refine (K).mono ?_
    rintro e w ⟨rfl, rfl⟩
    go_wp2
    go_ret2
    exact ⟨rfl, rfl⟩

set_option maxHeartbeats 1000000 in
theorem rright_any (x : Int) (w : World) (h2 : x ≤ 9223372036854775807) :
    Calls Tryz.prog 110 #[.int .i64 x] w fun e w' => e = .returned (.tuple #[.int .i64 (rtV x), .bool (rtB x)]) ∧ w' = w := by
  have K := rhalf_any x w h2
  rcases hf_cases x h2 with ⟨hl, hh⟩ | ⟨k, m, rfl, hb, hl, hh, hl2⟩
  · have h0 : ¬ (0 < lvl x ∧ x ≠ 9223372036854775807) := by omega
    simp only [rtV, rtB, h0, if_false, decide_false]
    rw [hh] at K
    clear hh hl h0
    go_enter Tryz.func110, Tryz.ntmps110
    go_wp2_with fail
    refine (K).mono ?_
    rintro e w ⟨rfl, rfl⟩
    go_wp2
    go_ret2
    exact ⟨rfl, rfl⟩
  · have hroom := right_room hb
    have hpos := Nat.two_pow_pos k
    rw [hh] at K
    simp only [rtV, rtB, hl, true_and, hh]
    have hk62 := two_pow_62 (show k < 63 by have := (nd_lt hb).1; omega)
    clear hh hl hl2
    generalize 2 ^ k = p at *
    generalize nd (k + 1) m = X at *
    have h0 : ((p : Int) == 0) = false := by rw [beq_eq_false_iff_ne]; omega
    have hw0 : wrap64 (9223372036854775807 - (p : Int)) = 9223372036854775807 - (p : Int) := wrap64_id (by omega) (by omega)
    by_cases hX : (X : Int) = 9223372036854775807
    · have hgt : 9223372036854775807 - (p : Int) < (X : Int) := by omega
      simp only [hX, ne_eq, not_true_eq_false, if_false, decide_false]
      rw [hX] at K hgt
      clear hroom h2 hb hX
      go_enter Tryz.func110, Tryz.ntmps110
      go_wp2_with fail
      refine (K).mono ?_
      rintro e w ⟨rfl, rfl⟩
      go_wp2
      go_ret2
      exact ⟨rfl, rfl⟩
    · have hr := hroom hX
      have hgt : ¬ 9223372036854775807 - (p : Int) < (X : Int) := by omega
      have hw : wrap64 ((X : Int) + (p : Int)) = (X : Int) + (p : Int) := wrap64_id (by omega) (by omega)
      simp only [hX, ne_eq, not_false_eq_true, if_true, decide_true]
      clear hroom hX
      go_enter Tryz.func110, Tryz.ntmps110
      go_wp2_with fail
      refine (K).mono ?_
      rintro e w ⟨rfl, rfl⟩
      go_wp2
      go_ret2
      exact ⟨rfl, rfl⟩

theorem span_arith (X p q : Nat) (hX : X = 4 * q + 2 * p - 1) (hpos : 0 < p) (hs : X + 2 * p < 9223372036854775808) :
    ((p * 2 - 1 : Nat) : Int) = 2 * (p : Int) - 1 ∧ ((X : Int) + (2 * (p : Int) - 1)) / 2 = (X : Int) / 2 + (p : Int) ∧ wrap64 (2 * (p : Int)) = 2 * (p : Int) ∧ wrap64 (2 * (p : Int) - 1) = 2 * (p : Int) - 1 ∧
    wrap64 ((X : Int) - (2 * (p : Int) - 1)) = (X : Int) - (2 * (p : Int) - 1) ∧ ((2 * (p : Int)) == 0) = false ∧ Int.tdiv ((X : Int) - (2 * (p : Int) - 1)) 2 = ((X : Int) - (2 * (p : Int) - 1)) / 2 ∧ Int.tdiv (X : Int) 2 = (X : Int) / 2 ∧
    Int.tdiv (2 * (p : Int)) 2 = (p : Int) ∧ (2 * (p : Int)) / 2 = (p : Int) ∧ wrap64 (((X : Int) - (2 * (p : Int) - 1)) / 2) = ((X : Int) - (2 * (p : Int) - 1)) / 2 ∧ wrap64 ((X : Int) / 2) = (X : Int) / 2 ∧
    wrap64 ((X : Int) / 2 + (p : Int)) = (X : Int) / 2 + (p : Int) ∧ wrap64 (p : Int) = (p : Int) := by
  have h1 : (X : Int) = 2 * (2 * (q : Int) + (p : Int) - 1) + 1 := by omega
  have h2 : (X : Int) / 2 = 2 * (q : Int) + (p : Int) - 1 := by rw [h1]; omega
  have h3 : (X : Int) - (2 * (p : Int) - 1) = 2 * (2 * (q : Int)) := by omega
  have h4 : (2 * (2 * (q : Int))) / 2 = 2 * (q : Int) := by omega
  have h5 : (X : Int) + (2 * (p : Int) - 1) = 2 * (2 * (q : Int) + 2 * (p : Int) - 1) := by omega
  have h6 : (2 * (2 * (q : Int) + 2 * (p : Int) - 1)) / 2 = 2 * (q : Int) + 2 * (p : Int) - 1 := by omega
  have b1 : 0 ≤ (q : Int) := by omega
  have b2 : 0 < (p : Int) := by omega
  have b3 : 4 * (q : Int) + 4 * (p : Int) ≤ 9223372036854775808 := by omega
  clear hX hs hpos h1
  rw [h2, h3, h4, h5, h6]
  generalize (q : Int) = Q at *
  refine ⟨by omega, by omega, wrap64_id (by omega) (by omega), wrap64_id (by omega) (by omega), wrap64_id (by omega) (by omega), by rw [beq_eq_false_iff_ne]; omega, by rw [Int.tdiv_eq_ediv_of_nonneg (by omega)]; omega, by rw [Int.tdiv_eq_ediv_of_nonneg (by omega)]; exact h2, by rw [Int.tdiv_eq_ediv_of_nonneg (by omega)]; omega, by omega, wrap64_id (by omega) (by omega), wrap64_id (by omega) (by omega), wrap64_id (by omega) (by omega), wrap64_id (by omega) (by omega)⟩

set_option maxHeartbeats 1000000 in
theorem rspan_any (x : Int) (w : World) (h2 : x ≤ 9223372036854775807) :
    Calls Tryz.prog 83 #[.int .i64 x] w fun e w' => e = .returned (.tuple #[.int .i64 (spF x), .int .i64 (spT x)]) ∧ w' = w := by
  have K := rhalf_any x w h2
  by_cases h0 : x < 0
  · simp only [spF, spT, h0, true_or, if_true]
    clear K
    go_enter Tryz.func83, Tryz.ntmps83
    go_wp2
    go_ret2
    exact ⟨rfl, rfl⟩
  · by_cases h1 : x = 9223372036854775807
    · subst h1
      simp only [spF, spT, or_true, if_true]
      clear K
      go_enter Tryz.func83, Tryz.ntmps83
      go_wp2
      go_ret2
      exact ⟨rfl, rfl⟩
    · have h3 : ¬ (x < 0 ∨ x = 9223372036854775807) := by omega
      have h1' : (x == 9223372036854775807) = false := by simpa using h1
      simp only [spF, spT, h3, if_false]
      rcases hf_cases x h2 with ⟨hl, hh⟩ | ⟨k, m, rfl, hb, hl, hh, hl2⟩
      · have hl0 : (lvl x).toNat = 0 := by omega
        rw [hl0]
        rw [hh] at K
        have t1 : Int.tdiv x 2 = x / 2 := Int.tdiv_eq_ediv_of_nonneg (by omega)
        have e1 : (x - ((2 ^ 0 - 1 : Nat) : Int)) / 2 = x / 2 := by simp
        have e2 : (x + ((2 ^ 0 - 1 : Nat) : Int)) / 2 = x / 2 := by simp
        rw [e1, e2]
        have hw : wrap64 (x / 2) = x / 2 := wrap64_id (by omega) (by omega)
        clear hh hl hl0 e1 e2 h3 h1
        go_enter Tryz.func83, Tryz.ntmps83
        go_wp2_with fail
        refine (K).mono ?_
        rintro e w ⟨rfl, rfl⟩
        go_wp2
        go_ret2
        exact ⟨rfl, rfl⟩
      · have hroom := right_room hb h1
        have hk := nd_lt hb
        have hk2 : k + 1 < 63 := by
          rcases Nat.lt_or_ge (k + 1) 63 with h | h
          · exact h
          · have e1 : k + 1 = 63 := by omega
            have e2 := hk.2 e1
            rw [e1, e2] at h1
            exact absurd rfl h1
        have hq := two_pow_62 hk2
        have hs := span_room hb hk2
        have e := nd_odd k m
        have e2 := nd_eq k m
        have hpos := Nat.two_pow_pos k
        rw [hl2, Int.toNat_natCast, Nat.pow_succ]
        rw [Nat.pow_succ] at hq hs
        rw [hh] at K
        clear hh hl hl2 hk hk2
        generalize 2 ^ k * m = q at *
        generalize 2 ^ k = p at *
        generalize nd k m = Y at *
        generalize nd (k + 1) m = X at *
        obtain ⟨hc, eT, hwa, hwb, hwc, n0, t1, t2, t3, t4, hw1, hw2, hw3, hw4⟩ := span_arith X p q (by omega) hpos (by omega)
        rw [hc, eT]
        clear e e2 hc eT h3 h1 hroom hs hq hb
        go_enter Tryz.func83, Tryz.ntmps83
        go_wp2_with fail
        refine (K).mono ?_
        rintro e w ⟨rfl, rfl⟩
        go_wp2
        simp only [hw1, hw2, hw3, hw4]
        go_ret2
        exact ⟨rfl, rfl⟩

end Go.Proofs.YtcbafeneaoaglaaGreatDoor

/- Contracts of the document's own answers for layer 2: parents, siblings, and who is below whom. -/
namespace Go.Proofs.YtcbafeneaoaglaaGreatDoor
open Go.RowKit

/-- One step down from p = nd (i + 1) q to x = nd k m, that is below p and is not p. -/
theorem step_down {k m i q : Nat} (hb : nd (i + 1) q < 2147483647) (hk : k < i + 1) (hw : wi (nd k m : Nat) (nd (i + 1) q : Nat) = true) :
    (((nd k m : Nat) : Int) < (nd (i + 1) q : Nat) ∧ wi (nd k m : Nat) (nd i (2 * q) : Nat) = true) ∨ (¬ ((nd k m : Nat) : Int) < (nd (i + 1) q : Nat) ∧ wi (nd k m : Nat) (nd i (2 * q + 1) : Nat) = true) := by
  have hne : nd k m ≠ nd (i + 1) q := fun c => by have := nd_inj c; omega
  have hp := Nat.two_pow_pos i
  have eX := nd_mul (i + 1) q
  have el := nd_mul i (2 * q)
  have er := nd_mul i (2 * q + 1)
  have p1 : 2 ^ (i + 1) = 2 * 2 ^ i := by rw [Nat.pow_succ]; omega
  have p2 : 2 ^ (i + 1 + 1) = 4 * 2 ^ i := by rw [Nat.pow_succ, p1]; omega
  have q1 : 2 ^ (i + 1 + 1) * q = 4 * (2 ^ i * q) := by rw [p2, Nat.mul_assoc]
  have q2 : 2 ^ (i + 1) * (2 * q) = 4 * (2 ^ i * q) := by rw [p1, Nat.mul_mul_mul_comm]
  have q3 : 2 ^ (i + 1) * (2 * q + 1) = 4 * (2 ^ i * q) + 2 * 2 ^ i := by rw [Nat.mul_add, q2, Nat.mul_one, p1]
  rw [wi_iff (by omega), q1, p2] at hw
  rw [q1, p1] at eX
  rw [q2] at el
  rw [q3] at er
  have hl : nd i (2 * q) < 9223372036854775808 := by generalize 2 ^ i * q = A at *; generalize 2 ^ i = p at *; omega
  have hr : nd i (2 * q + 1) < 9223372036854775808 := by generalize 2 ^ i * q = A at *; generalize 2 ^ i = p at *; omega
  rw [wi_iff hl, wi_iff hr, q2, q3, p1]
  generalize 2 ^ i * q = A at *
  generalize 2 ^ i = p at *
  generalize nd k m = X at *
  generalize nd (i + 1) q = Z at *
  clear el er q1 q2 q3 p1 p2 hl hr
  omega
theorem wi_same {k m q : Nat} (hb : nd k q < 9223372036854775808) (h : wi (nd k m : Nat) (nd k q : Nat) = true) : m = q := by
  have := ((wi_shift hb).1 h).2
  rw [nd_div, nd_div] at this
  exact this

set_option maxRecDepth 100000 in
set_option maxHeartbeats 1000000 in
theorem rparent_any (x L : Int) (w : World) :
    Calls Tryz.prog 99 #[.int .i64 x, .int .i64 L] w fun e w' => e = .returned (.tuple #[.int .i64 (parV x L), .bool (parB x L)]) ∧ w' = w := by
  have K := rin_any x L w
  rcases parB_cases x L with ⟨e1, e2⟩ | ⟨e1, e3, e2, e4⟩ | ⟨e1, e3, e2, e4⟩
  · rw [e1] at K
    simp only [parV, e2]
    clear e1 e2
    go_enter Tryz.func99, Tryz.ntmps99
    go_wp2_with fail
    refine (K).mono ?_
    rintro e w ⟨rfl, rfl⟩
    go_wp2
    go_ret2
    exact ⟨rfl, rfl⟩
  · rw [e1] at K
    have hT : isT L = true := by unfold inn at e1; cases h : isT L <;> simp_all
    have hb := isT_bounds hT
    have hw : wrap64 (L - 1) = L - 1 := wrap64_id (by omega) (by omega)
    simp only [parV, e2]
    subst e3
    clear e1 e2 e4 hT
    go_enter Tryz.func99, Tryz.ntmps99
    go_wp2_with fail
    refine (K).mono ?_
    rintro e w ⟨rfl, rfl⟩
    go_wp2
    go_ret2
    exact ⟨rfl, rfl⟩
  · rw [e1] at K
    have hT : isT L = true := by unfold inn at e1; cases h : isT L <;> simp_all
    have hb := isT_bounds hT
    have hw : wrap64 (L - 1) = L - 1 := wrap64_id (by omega) (by omega)
    have hwr := wi_root e1
    obtain ⟨d, k, m, hd, hL, rfl, hk, hm, hbx⟩ := parB_open e2
    have hroot := root_nd d
    rw [← hL] at hroot
    simp only [parV, e2, if_true]
    have HA := hide (abv_nd (show nd k m < 9223372036854775808 by omega))
    have e5 : (((nd k m : Nat) : Int) == L - 1) = false := by simpa using e3
    obtain ⟨A, hA⟩ : ∃ A, A = abv (nd k m : Nat) := ⟨_, rfl⟩
    rw [← hA]
    have HA2 := hide (hA.trans (unhide HA))
    have HW := hide (And.intro hL (And.intro hwr hroot))
    clear e1 e2 e3 e4 hT HA hA hL hwr hroot
    obtain ⟨X, hX⟩ : ∃ X, X = nd k m := ⟨_, rfl⟩
    rw [← hX] at K e5 hbx ⊢
    have HX := hide hX
    clear hX
    go_enter Tryz.func99, Tryz.ntmps99
    go_wp2_with fail
    refine (K).mono ?_
    rintro e w ⟨rfl, rfl⟩
    go_wp2_with fail
    go_loopw [6] (fun pv wr => ∃ (i q P : Nat), i + 1 ≤ d ∧ q < 2 ^ (d - (i + 1)) ∧ k < i + 1 ∧ Hid (P = nd (i + 1) q) ∧ pv = .int .i64 P ∧ Hid (wi (nd k m : Nat) (nd (i + 1) q : Nat) = true) ∧ wr = w) (fun pv _ => (lvl (intOf pv)).toNat)
    case atStart =>
      obtain ⟨d', rfl⟩ : ∃ d', d = d' + 1 := ⟨d - 1, by omega⟩
      refine ⟨d', 0, nd (d' + 1) 0, Nat.le_refl _, by simp, by omega, rfl, ?_, ?_, rfl⟩
      · rw [(unhide HW).2.2]
      · unfold Hid; rw [← (unhide HW).2.2]; exact (unhide HW).2.1
    case round =>
      obtain ⟨i, q, P, hi, hq, hki, hP, rfl, hwi, rfl⟩ := hrel
      obtain ⟨f1, f2, f3, f4, _, _, _, _, _, _, _, _, _, _, _, _, _, _, _, _, _, f22, f23, f24⟩ := family hd hi hq
      have hs := step_down f22 hki (unhide hwi)
      have hP' := unhide hP
      have G1 := rleft_any (P : Int) wr (by rw [hP']; omega)
      have G2 := rright_any (P : Int) wr (by rw [hP']; omega)
      rw [hP'] at G1 G2
      rw [f1, f3] at G1
      rw [f2, f4] at G2
      rw [← hP'] at G1 G2
      obtain ⟨l, hl⟩ : ∃ l, l = nd i (2 * q) := ⟨_, rfl⟩
      obtain ⟨r, hr⟩ : ∃ r, r = nd i (2 * q + 1) := ⟨_, rfl⟩
      rw [← hl] at G1
      rw [← hr] at G2
      have HLR := hide (And.intro hl (And.intro hr (And.intro f22 (And.intro f23 f24))))
      have HS := hide hs
      have hlv : lvl (P : Int) = ((i + 1 : Nat) : Int) := by rw [hP']; exact lvl_nd (by omega)
      have HV := hide hlv
      clear f1 f2 f3 f4 hs hP' hl hr hlv f22 f23 f24
      have hql : 2 * q < 2 ^ (d - i) ∧ 2 * q + 1 < 2 ^ (d - i) := by
        have e : d - i = d - (i + 1) + 1 := by omega
        rw [e, Nat.pow_succ]; omega
      by_cases hxl : X = l ∨ X = r
      · have hAP : A = (P : Int) := by
          have hh := unhide HLR
          rw [unhide HA2, unhide hP]
          rw [unhide HX, hh.1, hh.2.1] at hxl
          rcases hxl with h | h
          · obtain ⟨rfl, rfl⟩ := nd_inj h
            congr 2; omega
          · obtain ⟨rfl, rfl⟩ := nd_inj h
            congr 2; omega
        have HAP := hide hAP
        clear hAP
        rcases hxl with h | h
        · subst h
          go_wp2_with fail
          refine (G1).mono ?_
          rintro e wr ⟨rfl, rfl⟩
          go_wp2_with fail
          refine (G2).mono ?_
          rintro e wr ⟨rfl, rfl⟩
          go_wp2
          go_ret2
          rw [unhide HAP]
          exact ⟨rfl, rfl⟩
        · by_cases h2 : X = l
          · subst h2
            go_wp2_with fail
            refine (G1).mono ?_
            rintro e wr ⟨rfl, rfl⟩
            go_wp2_with fail
            refine (G2).mono ?_
            rintro e wr ⟨rfl, rfl⟩
            go_wp2
            go_ret2
            rw [unhide HAP]
            exact ⟨rfl, rfl⟩
          · subst h
            have n1 : ((l : Int) == (X : Int)) = false := by rw [beq_eq_false_iff_ne]; omega
            have h2' := hide h2
            clear h2
            go_wp2_with fail
            refine (G1).mono ?_
            rintro e wr ⟨rfl, rfl⟩
            go_wp2_with fail
            refine (G2).mono ?_
            rintro e wr ⟨rfl, rfl⟩
            go_wp2
            go_ret2
            rw [unhide HAP]
            exact ⟨rfl, rfl⟩
      · have n1 : ((l : Int) == (X : Int)) = false := by rw [beq_eq_false_iff_ne]; omega
        have n2 : ((r : Int) == (X : Int)) = false := by rw [beq_eq_false_iff_ne]; omega
        have HN := hide hxl
        clear hxl
        have hup : ∀ u, wi (nd k m : Nat) (nd i u : Nat) = true → nd i u < 9223372036854775808 → X ≠ nd i u → ∃ i', i = i' + 1 ∧ k < i' + 1 := by
          intro u hu hbu hne
          have h1 := ((wi_shift hbu).1 hu).1
          rcases Nat.lt_or_eq_of_le h1 with h | h
          · exact ⟨i - 1, by omega, by omega⟩
          · subst h
            have := wi_same hbu hu
            exact absurd (by rw [unhide HX, this]) hne
        by_cases hlt : (X : Int) < (P : Int)
        · have hwl : wi (nd k m : Nat) (nd i (2 * q) : Nat) = true := by
            rcases unhide HS with h | h
            · exact h.2
            · rw [← unhide HX, ← unhide hP] at h; exact absurd hlt h.1
          obtain ⟨i', hi', hk'⟩ := hup _ hwl (by have := (unhide HLR).2.2.2.1; omega) (by have := unhide HN; rw [← (unhide HLR).1]; omega)
          clear hup
          have HW2 := hide (And.intro hwl hi')
          clear hwl hi'
          go_wp2_with fail
          refine (G1).mono ?_
          rintro e wr ⟨rfl, rfl⟩
          go_wp2_with fail
          refine (G2).mono ?_
          rintro e wr ⟨rfl, rfl⟩
          go_wp2_with fail
          go_roundw
          case rel =>
            obtain ⟨h1, rfl⟩ := unhide HW2
            exact ⟨i', 2 * q, l, by omega, hql.1, hk', (unhide HLR).1, rfl, h1, trivial⟩
          case measure =>
            simp only [intOf]
            rw [unhide HV, (unhide HLR).1, lvl_nd (by have := (unhide HLR).2.2.2.1; omega)]
            omega
        · have hwl : wi (nd k m : Nat) (nd i (2 * q + 1) : Nat) = true := by
            rcases unhide HS with h | h
            · rw [← unhide HX, ← unhide hP] at h; exact absurd h.1 hlt
            · exact h.2
          obtain ⟨i', hi', hk'⟩ := hup _ hwl (by have := (unhide HLR).2.2.2.2; omega) (by have := unhide HN; rw [← (unhide HLR).2.1]; omega)
          clear hup
          have HW2 := hide (And.intro hwl hi')
          clear hwl hi'
          go_wp2_with fail
          refine (G1).mono ?_
          rintro e wr ⟨rfl, rfl⟩
          go_wp2_with fail
          refine (G2).mono ?_
          rintro e wr ⟨rfl, rfl⟩
          go_wp2_with fail
          go_roundw
          case rel =>
            obtain ⟨h1, rfl⟩ := unhide HW2
            exact ⟨i', 2 * q + 1, r, by omega, hql.2, hk', (unhide HLR).2.1, rfl, h1, trivial⟩
          case measure =>
            simp only [intOf]
            rw [unhide HV, (unhide HLR).2.1, lvl_nd (by have := (unhide HLR).2.2.2.2; omega)]
            omega

end Go.Proofs.YtcbafeneaoaglaaGreatDoor
