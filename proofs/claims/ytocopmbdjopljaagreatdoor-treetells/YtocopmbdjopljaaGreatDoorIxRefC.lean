/- Contracts of the document's own answers for layer 2: parents, siblings, and who is below whom. -/
import Derived.Test.YtocopmbdjopljaaGreatDoorIxRefB
import Derived.Test.YtocopmbdjopljaaGreatDoorIxKin
import Derived.Test.YtocopmbdjopljaaGreatDoorIxList
namespace Go.Proofs.YtocopmbdjopljaaGreatDoor
open Go.RowKit

/-- One step down from p = nd (i + 1) q to x = nd k m, that is below p and is not p. -/
theorem step_down {k m i q : Nat} (hb : nd (i + 1) q < 2147483647) (hk : k < i + 1) (hw : wi (nd k m : Nat) (nd (i + 1) q : Nat) = true) :
    (((nd k m : Nat) : Int) < (nd (i + 1) q : Nat) ∧ wi (nd k m : Nat) (nd i (2 * q) : Nat) = true) ∨ (¬ ((nd k m : Nat) : Int) < (nd (i + 1) q : Nat) ∧ wi (nd k m : Nat) (nd i (2 * q + 1) : Nat) = true) := by
  have hne : nd k m ≠ nd (i + 1) q := fun c => by have := nd_inj c; omega
  have hp := Nat.two_pow_pos i
  have eX := nd_mul (i + 1) q
  have el := nd_mul i (2 * q)
  have er := nd_mul i (2 * q + 1)
  have p1 : 2 ^ (i + 1) = 2 * 2 ^ i := by rw [Nat.pow_succ]; omega
  have p2 : 2 ^ (i + 1 + 1) = 4 * 2 ^ i := by rw [Nat.pow_succ, p1]; omega
  have q1 : 2 ^ (i + 1 + 1) * q = 4 * (2 ^ i * q) := by rw [p2, Nat.mul_assoc]
  have q2 : 2 ^ (i + 1) * (2 * q) = 4 * (2 ^ i * q) := by rw [p1, Nat.mul_mul_mul_comm]
  have q3 : 2 ^ (i + 1) * (2 * q + 1) = 4 * (2 ^ i * q) + 2 * 2 ^ i := by rw [Nat.mul_add, q2, Nat.mul_one, p1]
  rw [wi_iff (by omega), q1, p2] at hw
  rw [q1, p1] at eX
  rw [q2] at el
  rw [q3] at er
  have hl : nd i (2 * q) < 9223372036854775808 := by generalize 2 ^ i * q = A at *; generalize 2 ^ i = p at *; omega
  have hr : nd i (2 * q + 1) < 9223372036854775808 := by generalize 2 ^ i * q = A at *; generalize 2 ^ i = p at *; omega
  rw [wi_iff hl, wi_iff hr, q2, q3, p1]
  generalize 2 ^ i * q = A at *
  generalize 2 ^ i = p at *
  generalize nd k m = X at *
  generalize nd (i + 1) q = Z at *
  clear el er q1 q2 q3 p1 p2 hl hr
  omega
theorem wi_same {k m q : Nat} (hb : nd k q < 9223372036854775808) (h : wi (nd k m : Nat) (nd k q : Nat) = true) : m = q := by
  have := ((wi_shift hb).1 h).2
  rw [nd_div, nd_div] at this
  exact this

set_option maxRecDepth 100000 in
set_option maxHeartbeats 1000000 in
theorem rparent_any (x L : Int) (w : World) :
    Calls Tryz.prog 258 #[.int .i64 x, .int .i64 L] w fun e w' => e = .returned (.tuple #[.int .i64 (parV x L), .bool (parB x L)]) ∧ w' = w := by
  have K := rin_any x L w
  rcases parB_cases x L with ⟨e1, e2⟩ | ⟨e1, e3, e2, e4⟩ | ⟨e1, e3, e2, e4⟩
  · rw [e1] at K
    simp only [parV, e2]
    clear e1 e2
    go_enter Tryz.func258, Tryz.ntmps258
    go_wp2_with fail
    refine (K).mono ?_
    rintro e w ⟨rfl, rfl⟩
    go_wp2
    go_ret2
    exact ⟨rfl, rfl⟩
  · rw [e1] at K
    have hT : isT L = true := by unfold inn at e1; cases h : isT L <;> simp_all
    have hb := isT_bounds hT
    have hw : wrap64 (L - 1) = L - 1 := wrap64_id (by omega) (by omega)
    simp only [parV, e2]
    subst e3
    clear e1 e2 e4 hT
    go_enter Tryz.func258, Tryz.ntmps258
    go_wp2_with fail
    refine (K).mono ?_
    rintro e w ⟨rfl, rfl⟩
    go_wp2
    go_ret2
    exact ⟨rfl, rfl⟩
  · rw [e1] at K
    have hT : isT L = true := by unfold inn at e1; cases h : isT L <;> simp_all
    have hb := isT_bounds hT
    have hw : wrap64 (L - 1) = L - 1 := wrap64_id (by omega) (by omega)
    have hwr := wi_root e1
    obtain ⟨d, k, m, hd, hL, rfl, hk, hm, hbx⟩ := parB_open e2
    have hroot := root_nd d
    rw [← hL] at hroot
    simp only [parV, e2, if_true]
    have HA := hide (abv_nd (show nd k m < 9223372036854775808 by omega))
    have e5 : (((nd k m : Nat) : Int) == L - 1) = false := by simpa using e3
    obtain ⟨A, hA⟩ : ∃ A, A = abv (nd k m : Nat) := ⟨_, rfl⟩
    rw [← hA]
    have HA2 := hide (hA.trans (unhide HA))
    have HW := hide (And.intro hL (And.intro hwr hroot))
    clear e1 e2 e3 e4 hT HA hA hL hwr hroot
    obtain ⟨X, hX⟩ : ∃ X, X = nd k m := ⟨_, rfl⟩
    rw [← hX] at K e5 hbx ⊢
    have HX := hide hX
    clear hX
    go_enter Tryz.func258, Tryz.ntmps258
    go_wp2_with fail
    refine (K).mono ?_
    rintro e w ⟨rfl, rfl⟩
    go_wp2_with fail
    go_loopw [6] (fun pv wr => ∃ (i q P : Nat), i + 1 ≤ d ∧ q < 2 ^ (d - (i + 1)) ∧ k < i + 1 ∧ Hid (P = nd (i + 1) q) ∧ pv = .int .i64 P ∧ Hid (wi (nd k m : Nat) (nd (i + 1) q : Nat) = true) ∧ wr = w) (fun pv _ => (lvl (intOf pv)).toNat)
    case atStart =>
      obtain ⟨d', rfl⟩ : ∃ d', d = d' + 1 := ⟨d - 1, by omega⟩
      refine ⟨d', 0, nd (d' + 1) 0, Nat.le_refl _, by simp, by omega, rfl, ?_, ?_, rfl⟩
      · rw [(unhide HW).2.2]
      · unfold Hid; rw [← (unhide HW).2.2]; exact (unhide HW).2.1
    case round =>
      obtain ⟨i, q, P, hi, hq, hki, hP, rfl, hwi, rfl⟩ := hrel
      obtain ⟨f1, f2, f3, f4, _, _, _, _, _, _, _, _, _, _, _, _, _, _, _, _, _, f22, f23, f24⟩ := family hd hi hq
      have hs := step_down f22 hki (unhide hwi)
      have hP' := unhide hP
      have G1 := rleft_any (P : Int) wr (by rw [hP']; omega)
      have G2 := rright_any (P : Int) wr (by rw [hP']; omega)
      rw [hP'] at G1 G2
      rw [f1, f3] at G1
      rw [f2, f4] at G2
      rw [← hP'] at G1 G2
      obtain ⟨l, hl⟩ : ∃ l, l = nd i (2 * q) := ⟨_, rfl⟩
      obtain ⟨r, hr⟩ : ∃ r, r = nd i (2 * q + 1) := ⟨_, rfl⟩
      rw [← hl] at G1
      rw [← hr] at G2
      have HLR := hide (And.intro hl (And.intro hr (And.intro f22 (And.intro f23 f24))))
      have HS := hide hs
      have hlv : lvl (P : Int) = ((i + 1 : Nat) : Int) := by rw [hP']; exact lvl_nd (by omega)
      have HV := hide hlv
      clear f1 f2 f3 f4 hs hP' hl hr hlv f22 f23 f24
      have hql : 2 * q < 2 ^ (d - i) ∧ 2 * q + 1 < 2 ^ (d - i) := by
        have e : d - i = d - (i + 1) + 1 := by omega
        rw [e, Nat.pow_succ]; omega
      by_cases hxl : X = l ∨ X = r
      · have hAP : A = (P : Int) := by
          have hh := unhide HLR
          rw [unhide HA2, unhide hP]
          rw [unhide HX, hh.1, hh.2.1] at hxl
          rcases hxl with h | h
          · obtain ⟨rfl, rfl⟩ := nd_inj h
            congr 2; omega
          · obtain ⟨rfl, rfl⟩ := nd_inj h
            congr 2; omega
        have HAP := hide hAP
        clear hAP
        rcases hxl with h | h
        · subst h
          go_wp2_with fail
          refine (G1).mono ?_
          rintro e wr ⟨rfl, rfl⟩
          go_wp2_with fail
          refine (G2).mono ?_
          rintro e wr ⟨rfl, rfl⟩
          go_wp2
          go_ret2
          rw [unhide HAP]
          exact ⟨rfl, rfl⟩
        · by_cases h2 : X = l
          · subst h2
            go_wp2_with fail
            refine (G1).mono ?_
            rintro e wr ⟨rfl, rfl⟩
            go_wp2_with fail
            refine (G2).mono ?_
            rintro e wr ⟨rfl, rfl⟩
            go_wp2
            go_ret2
            rw [unhide HAP]
            exact ⟨rfl, rfl⟩
          · subst h
            have n1 : ((l : Int) == (X : Int)) = false := by rw [beq_eq_false_iff_ne]; omega
            have h2' := hide h2
            clear h2
            go_wp2_with fail
            refine (G1).mono ?_
            rintro e wr ⟨rfl, rfl⟩
            go_wp2_with fail
            refine (G2).mono ?_
            rintro e wr ⟨rfl, rfl⟩
            go_wp2
            go_ret2
            rw [unhide HAP]
            exact ⟨rfl, rfl⟩
      · have n1 : ((l : Int) == (X : Int)) = false := by rw [beq_eq_false_iff_ne]; omega
        have n2 : ((r : Int) == (X : Int)) = false := by rw [beq_eq_false_iff_ne]; omega
        have HN := hide hxl
        clear hxl
        have hup : ∀ u, wi (nd k m : Nat) (nd i u : Nat) = true → nd i u < 9223372036854775808 → X ≠ nd i u → ∃ i', i = i' + 1 ∧ k < i' + 1 := by
          intro u hu hbu hne
          have h1 := ((wi_shift hbu).1 hu).1
          rcases Nat.lt_or_eq_of_le h1 with h | h
          · exact ⟨i - 1, by omega, by omega⟩
          · subst h
            have := wi_same hbu hu
            exact absurd (by rw [unhide HX, this]) hne
        by_cases hlt : (X : Int) < (P : Int)
        · have hwl : wi (nd k m : Nat) (nd i (2 * q) : Nat) = true := by
            rcases unhide HS with h | h
            · exact h.2
            · rw [← unhide HX, ← unhide hP] at h; exact absurd hlt h.1
          obtain ⟨i', hi', hk'⟩ := hup _ hwl (by have := (unhide HLR).2.2.2.1; omega) (by have := unhide HN; rw [← (unhide HLR).1]; omega)
          clear hup
          have HW2 := hide (And.intro hwl hi')
          clear hwl hi'
          go_wp2_with fail
          refine (G1).mono ?_
          rintro e wr ⟨rfl, rfl⟩
          go_wp2_with fail
          refine (G2).mono ?_
          rintro e wr ⟨rfl, rfl⟩
          go_wp2_with fail
          go_roundw
          case rel =>
            obtain ⟨h1, rfl⟩ := unhide HW2
            exact ⟨i', 2 * q, l, by omega, hql.1, hk', (unhide HLR).1, rfl, h1, trivial⟩
          case measure =>
            simp only [intOf]
            rw [unhide HV, (unhide HLR).1, lvl_nd (by have := (unhide HLR).2.2.2.1; omega)]
            omega
        · have hwl : wi (nd k m : Nat) (nd i (2 * q + 1) : Nat) = true := by
            rcases unhide HS with h | h
            · rw [← unhide HX, ← unhide hP] at h; exact absurd h.1 hlt
            · exact h.2
          obtain ⟨i', hi', hk'⟩ := hup _ hwl (by have := (unhide HLR).2.2.2.2; omega) (by have := unhide HN; rw [← (unhide HLR).2.1]; omega)
          clear hup
          have HW2 := hide (And.intro hwl hi')
          clear hwl hi'
          go_wp2_with fail
          refine (G1).mono ?_
          rintro e wr ⟨rfl, rfl⟩
          go_wp2_with fail
          refine (G2).mono ?_
          rintro e wr ⟨rfl, rfl⟩
          go_wp2_with fail
          go_roundw
          case rel =>
            obtain ⟨h1, rfl⟩ := unhide HW2
            exact ⟨i', 2 * q + 1, r, by omega, hql.2, hk', (unhide HLR).2.1, rfl, h1, trivial⟩
          case measure =>
            simp only [intOf]
            rw [unhide HV, (unhide HLR).2.1, lvl_nd (by have := (unhide HLR).2.2.2.2; omega)]
            omega

end Go.Proofs.YtocopmbdjopljaaGreatDoor
